/-
  Orders and their plans, as plain data: what has been placed, when the next leg can begin.
  The plan of an order, step by step, as plain data.
  The tracks of a board: the last hold of a track says from when on it is free.
  The plan of an order has no clash.
-/
import Derived.Test.YtnjaegeapcijpaaDoorPlainC
import Derived.Test.YtnjaegeapcijpaaDoorPlainH
namespace Go.Proofs.YtnjaegeapcijpaaDoor
open Go.RowKit

/-- what has been placed so far -/
structure PartP (np : Nat) (f : Nat → TrainD) (P : Nat → RowD) (last : Int) : Prop where
  le : ∀ j, j < np → (P j).n ≤ (f j).nl
  at0 : ∀ j, j < np → ∀ m, m < (P j).n → 0 ≤ (P j).s m ∧ (P j).s m ≤ last
  l0 : 0 ≤ last
  l1 : last ≤ 600000
/-- when a train leaves the station to which a placed leg leads; none: not known yet -/
def leaveO (f : Nat → TrainD) (P : Nat → RowD) (j m : Nat) : Option Int :=
  if m + 1 < (P j).n then some ((P j).s (m + 1)) else if m + 1 < (f j).nl then none else some ((P j).s m + ((f j).leg m).run)
/-- this leg's train has a track of station s at a time -/
def hereB (f : Nat → TrainD) (P : Nat → RowD) (s t : Int) (j m : Nat) : Bool :=
  decide (((f j).leg m).to = s) && (match leaveO f P j m with | none => true | some e => decide (t ≤ e))
def thereRow (f : Nat → TrainD) (P : Nat → RowD) (s t : Int) (j : Nat) : Nat → Nat
  | 0 => 0
  | m + 1 => thereRow f P s t j m + (if hereB f P s t j m = true then 1 else 0)
def thereAll (f : Nat → TrainD) (P : Nat → RowD) (s t : Int) : Nat → Nat
  | 0 => 0
  | j + 1 => thereAll f P s t j + thereRow f P s t j (P j).n
theorem thereRow_le (f : Nat → TrainD) (P : Nat → RowD) (s t : Int) (j : Nat) : ∀ m, thereRow f P s t j m ≤ m
  | 0 => Nat.le_refl _
  | m + 1 => by have := thereRow_le f P s t j m; simp only [thereRow]; split <;> omega
theorem thereAll_le {f : Nat → TrainD} {P : Nat → RowD} {s t : Int} {n : Nat} (h : ∀ j, j < n → (P j).n ≤ 10) : ∀ j, j ≤ n → thereAll f P s t j ≤ j * 10
  | 0, _ => Nat.le_refl _
  | j + 1, hj => by
    have h0 := thereAll_le (f := f) (s := s) (t := t) h j (by omega)
    have h1 := thereRow_le f P s t j (P j).n
    have h2 := h j (by omega)
    simp only [thereAll]; omega
theorem thereRow_mono {f : Nat → TrainD} {P : Nat → RowD} {s t t' : Int} (h : t ≤ t') (j : Nat) : ∀ m, thereRow f P s t' j m ≤ thereRow f P s t j m
  | 0 => Nat.le_refl _
  | m + 1 => by
    have h0 := thereRow_mono (f := f) (P := P) (s := s) h j m
    have h1 : hereB f P s t' j m = true → hereB f P s t j m = true := by
      unfold hereB
      cases leaveO f P j m with
      | none => exact fun h => h
      | some e => simp only [Bool.and_eq_true, decide_eq_true_eq]; exact fun ⟨a, b⟩ => ⟨a, by omega⟩
    simp only [thereRow]
    by_cases e : hereB f P s t' j m = true
    · rw [if_pos e, if_pos (h1 e)]; omega
    · rw [if_neg e]; split <;> omega
theorem thereAll_mono {f : Nat → TrainD} {P : Nat → RowD} {s t t' : Int} (h : t ≤ t') : ∀ n, thereAll f P s t' n ≤ thereAll f P s t n
  | 0 => Nat.le_refl _
  | n + 1 => by
    have h0 := thereAll_mono (f := f) (P := P) (s := s) h n
    have h1 := thereRow_mono (f := f) (P := P) (s := s) h n (P n).n
    simp only [thereAll]; omega
/-- as long as none leaves between them, two times have as many there -/
theorem thereRow_same {f : Nat → TrainD} {P : Nat → RowD} {s t t' : Int} (h : t ≤ t') (j : Nat) : ∀ m, (∀ k, k < m → ((f j).leg k).to = s → ∀ e, leaveO f P j k = some e → t ≤ e → t' ≤ e) → thereRow f P s t' j m = thereRow f P s t j m
  | 0, _ => rfl
  | m + 1, hk => by
    have h0 := thereRow_same h j m (fun k hk' => hk k (by omega))
    have h1 : hereB f P s t' j m = hereB f P s t j m := by
      unfold hereB
      by_cases hs : ((f j).leg m).to = s
      · cases hl : leaveO f P j m with
        | none => rfl
        | some e =>
          have := hk m (by omega) hs e hl
          by_cases h2 : t ≤ e
          · simp [h2, this h2]
          · have h3 : ¬ t' ≤ e := by omega
            simp [h2, h3]
      · simp [hs]
    simp only [thereRow, h0, h1]
theorem thereAll_same {f : Nat → TrainD} {P : Nat → RowD} {s t t' : Int} (h : t ≤ t') : ∀ n, (∀ j, j < n → ∀ k, k < (P j).n → ((f j).leg k).to = s → ∀ e, leaveO f P j k = some e → t ≤ e → t' ≤ e) → thereAll f P s t' n = thereAll f P s t n
  | 0, _ => rfl
  | n + 1, hk => by
    simp only [thereAll]
    rw [thereAll_same h n (fun j hj => hk j (by omega)), thereRow_same h n _ (hk n (by omega))]

/-- from when on no other train has the track, and not ahead of a time -/
def trackRow (f : Nat → TrainD) (P : Nat → RowD) (gap : Int) (i k j : Nat) (a : Int) : Nat → Int
  | 0 => a
  | m + 1 => if j ≠ i ∧ trackOf (f j) m = trackOf (f i) k ∧ trackRow f P gap i k j a m < (P j).s m + ((f j).leg m).run + gap then (P j).s m + ((f j).leg m).run + gap else trackRow f P gap i k j a m
def trackAll (f : Nat → TrainD) (P : Nat → RowD) (gap : Int) (i k : Nat) (a : Int) : Nat → Int
  | 0 => a
  | j + 1 => trackRow f P gap i k j (trackAll f P gap i k a j) (P j).n
def maxZ (x y : Int) : Int := if x < y then y else x
def lowOf (np : Nat) (f : Nat → TrainD) (P : Nat → RowD) (gap last : Int) (i : Nat) : Int := trackAll f P gap i (P i).n (maxZ (readyOf f P i (P i).n) last) np
def stOf (f : Nat → TrainD) (P : Nat → RowD) (i : Nat) : Int := ((f i).leg (P i).n).to
def fullAt (np : Nat) (g : Nat → Int) (f : Nat → TrainD) (P : Nat → RowD) (s t : Int) : Prop := g s.toNat ≤ (thereAll f P s t np : Int)
/-- the first time from low on at which there is a track more -/
def IsFirst (np : Nat) (g : Nat → Int) (f : Nat → TrainD) (P : Nat → RowD) (s low t : Int) : Prop := low ≤ t ∧ ¬ fullAt np g f P s t ∧ ∀ u, low ≤ u → u < t → fullAt np g f P s u
theorem IsFirst.uniq {np : Nat} {g : Nat → Int} {f : Nat → TrainD} {P : Nat → RowD} {s low t t' : Int} (h : IsFirst np g f P s low t) (h' : IsFirst np g f P s low t') : t = t' := by
  rcases Int.lt_trichotomy t t' with e | e | e
  · exact absurd (h'.2.2 t h.1 e) h.2.1
  · exact e
  · exact absurd (h.2.2 t' h'.1 e) h'.2.1
open Classical in
/-- code, and when -/
noncomputable def nextOf (np : Nat) (g : Nat → Int) (f : Nat → TrainD) (P : Nat → RowD) (gap last : Int) (i : Nat) : Int × Int :=
  if (P i).n = (f i).nl then (2, 0) else if h : ∃ t, IsFirst np g f P (stOf f P i) (lowOf np f P gap last i) t then (0, h.choose) else (3, 0)
theorem nextOf_two {np : Nat} {g : Nat → Int} {f : Nat → TrainD} {P : Nat → RowD} {gap last : Int} {i : Nat} (h : (P i).n = (f i).nl) : nextOf np g f P gap last i = (2, 0) := by unfold nextOf; rw [if_pos h]
theorem nextOf_ok {np : Nat} {g : Nat → Int} {f : Nat → TrainD} {P : Nat → RowD} {gap last : Int} {i : Nat} (h : (P i).n ≠ (f i).nl) {t : Int} (ht : IsFirst np g f P (stOf f P i) (lowOf np f P gap last i) t) : nextOf np g f P gap last i = (0, t) := by
  unfold nextOf
  have he : ∃ t, IsFirst np g f P (stOf f P i) (lowOf np f P gap last i) t := ⟨t, ht⟩
  rw [if_neg h, dif_pos he, he.choose_spec.uniq ht]
theorem nextOf_three {np : Nat} {g : Nat → Int} {f : Nat → TrainD} {P : Nat → RowD} {gap last : Int} {i : Nat} (h : (P i).n ≠ (f i).nl) (ht : ∀ t, lowOf np f P gap last i ≤ t → fullAt np g f P (stOf f P i) t) : nextOf np g f P gap last i = (3, 0) := by
  unfold nextOf
  rw [if_neg h, dif_neg (fun ⟨t, h1, h2, _⟩ => h2 (ht t h1))]
/-- a leg more -/
def moreP (P : Nat → RowD) (i : Nat) (t : Int) : Nat → RowD := fun j => if j = i then ⟨(P j).n + 1, fun m => if m = (P j).n then t else (P j).s m⟩ else P j

theorem trackRow_bd {f : Nat → TrainD} {P : Nat → RowD} {gap : Int} {i k j : Nat} {a B : Int} (ha : a ≤ B) (h : ∀ m, m < (P j).n → (P j).s m + ((f j).leg m).run + gap ≤ B) : ∀ m, m ≤ (P j).n → a ≤ trackRow f P gap i k j a m ∧ trackRow f P gap i k j a m ≤ B
  | 0, _ => ⟨Int.le_refl _, ha⟩
  | m + 1, hm => by
    have h0 := trackRow_bd (f := f) (P := P) (gap := gap) (i := i) (k := k) ha h m (by omega)
    have h1 := h m (by omega)
    simp only [trackRow]
    split
    · rename_i hc; exact ⟨by omega, h1⟩
    · exact h0
theorem trackAll_bd {f : Nat → TrainD} {P : Nat → RowD} {gap : Int} {i k : Nat} {a B : Int} {n : Nat} (ha : a ≤ B) (h : ∀ j, j < n → ∀ m, m < (P j).n → (P j).s m + ((f j).leg m).run + gap ≤ B) : ∀ j, j ≤ n → a ≤ trackAll f P gap i k a j ∧ trackAll f P gap i k a j ≤ B
  | 0, _ => ⟨Int.le_refl _, ha⟩
  | j + 1, hj => by
    have h0 := trackAll_bd (i := i) (k := k) ha h j (by omega)
    have h1 := trackRow_bd (f := f) (P := P) (gap := gap) (i := i) (k := k) (j := j) h0.2 (h j (by omega)) (P j).n (Nat.le_refl _)
    simp only [trackAll]
    exact ⟨by omega, h1.2⟩
end Go.Proofs.YtnjaegeapcijpaaDoor

namespace Go.Proofs.YtnjaegeapcijpaaDoor
open Go.RowKit

theorem leave_bd {len np : Nat} {f : Nat → TrainD} {P : Nat → RowD} {last : Int} (hR : RightL len np f) (hQ : PartP np f P last) {j k : Nat} (hj : j < np) (hk : k < (P j).n) {e : Int} (he : leaveO f P j k = some e) : 0 ≤ e ∧ e ≤ last + 10000 := by
  have hn := hQ.le j hj
  have h1 := hQ.at0 j hj k hk
  obtain ⟨r0, r1, _⟩ := (hR.train j hj).leg k (by omega)
  unfold leaveO at he
  split at he
  · have := hQ.at0 j hj (k + 1) (by omega); simp only [Option.some.injEq] at he; omega
  · split at he
    · cases he
    · simp only [Option.some.injEq] at he; omega
theorem first_bd {len np : Nat} {g : Nat → Int} {f : Nat → TrainD} {P : Nat → RowD} {last s low t : Int} (hR : RightL len np f) (hQ : PartP np f P last) (h : IsFirst np g f P s low t) (hl : low ≤ last + 20000 ∨ low ≤ 110000) : t ≤ last + 20001 ∨ t ≤ 110000 := by
  rcases Int.lt_or_le low t with h1 | h1
  · left
    rcases Int.lt_or_le (last + 10001) t with h2 | h2
    · exfalso
      have hf := h.2.2 (t - 1) (by omega) (by omega)
      refine h.2.1 ?_
      unfold fullAt at *
      rw [thereAll_same (t := t - 1) (t' := t) (by omega) np (fun j hj k hk _ e he h3 => by have := leave_bd hR hQ hj hk he; omega)]
      exact hf
    · omega
  · have := h.1
    rcases hl with h2 | h2
    · left; omega
    · right; omega
theorem ready_bd {len np : Nat} {f : Nat → TrainD} {P : Nat → RowD} {last : Int} (hR : RightL len np f) (hQ : PartP np f P last) {i : Nat} (hi : i < np) (hk : (P i).n < (f i).nl) : 0 ≤ readyOf f P i (P i).n ∧ (readyOf f P i (P i).n ≤ last + 20000 ∨ readyOf f P i (P i).n ≤ 110000) := by
  have hRi := hR.train i hi
  have hr0 := hRi.r0
  have hr1 := hRi.r1
  have hl0 := hQ.l0
  cases hn : (P i).n with
  | zero => obtain ⟨_, _, l2, l3⟩ := hRi.leg 0 (by omega); simp only [readyOf]; omega
  | succ k =>
    have h1 := hQ.at0 i hi k (by omega)
    obtain ⟨r0, r1, _, _⟩ := hRi.leg k (by omega)
    obtain ⟨_, _, l2, l3⟩ := hRi.leg (k + 1) (by omega)
    simp only [readyOf]; omega
theorem low_bd {len np : Nat} {g : Nat → Int} {gap : Int} {f : Nat → TrainD} {P : Nat → RowD} {last : Int} (hR : RightL len np f) (hG : RightG len g gap np f) (hQ : PartP np f P last) {i : Nat} (hi : i < np) (hk : (P i).n < (f i).nl) : last ≤ lowOf np f P gap last i ∧ (lowOf np f P gap last i ≤ last + 20000 ∨ lowOf np f P gap last i ≤ 110000) := by
  have hrd := ready_bd hR hQ hi hk
  have g0 := hG.g0
  have g1 := hG.g1
  have hl0 := hQ.l0
  have hm : last ≤ maxZ (readyOf f P i (P i).n) last ∧ (maxZ (readyOf f P i (P i).n) last ≤ last + 20000 ∨ maxZ (readyOf f P i (P i).n) last ≤ 110000) := by unfold maxZ; split <;> omega
  have hB : ∀ B, maxZ (readyOf f P i (P i).n) last ≤ B → last + 20000 ≤ B → last ≤ lowOf np f P gap last i ∧ lowOf np f P gap last i ≤ B := fun B h1 h2 => by
    have := trackAll_bd (f := f) (P := P) (gap := gap) (i := i) (k := (P i).n) h1 (n := np) (fun j hj m hmm => by
      have h3 := hQ.at0 j hj m hmm
      obtain ⟨r0, r1, _⟩ := (hR.train j hj).leg m (by have := hQ.le j hj; omega)
      omega) np (Nat.le_refl _)
    unfold lowOf
    exact ⟨by omega, this.2⟩
  rcases Int.lt_or_le (last + 20000) 110000 with h | h
  · have := hB 110000 (by omega) (by omega); exact ⟨this.1, Or.inr this.2⟩
  · have := hB (last + 20000) (by omega) (by omega); exact ⟨this.1, Or.inl this.2⟩
theorem PartP.more {len np : Nat} {g : Nat → Int} {gap : Int} {f : Nat → TrainD} {P : Nat → RowD} {last t : Int} (hR : RightL len np f) (hG : RightG len g gap np f) (hQ : PartP np f P last) {i : Nat} (hi : i < np) (hk : (P i).n < (f i).nl) (h : IsFirst np g f P (stOf f P i) (lowOf np f P gap last i) t) {k : Nat} (hk10 : k < 10) (hl : last ≤ 110000 + 20001 * k) :
    PartP np f (moreP P i t) t ∧ t ≤ 110000 + 20001 * ((k + 1 : Nat) : Int) := by
  have h1 := low_bd hR hG hQ hi hk
  have h2 := first_bd hR hQ h h1.2
  have h3 := h.1
  have hl0 := hQ.l0
  have hb : t ≤ 110000 + 20001 * ((k + 1 : Nat) : Int) := by omega
  refine ⟨⟨fun j hj => ?_, fun j hj m hm => ?_, by omega, by omega⟩, hb⟩
  · by_cases e : j = i
    · subst e; simp only [moreP, if_pos]; omega
    · simp only [moreP, if_neg e]; exact hQ.le j hj
  · by_cases e : j = i
    · subst e
      simp only [moreP, if_pos] at hm ⊢
      by_cases e2 : m = (P j).n
      · rw [if_pos e2]; omega
      · rw [if_neg e2]; have := hQ.at0 j hj m (by omega); omega
    · simp only [moreP, if_neg e] at hm ⊢
      have := hQ.at0 j hj m hm; omega

structure StP where
  code : Int
  at_ : Nat
  P : Nat → RowD
  last : Int
noncomputable def stepP (np : Nat) (g : Nat → Int) (f : Nat → TrainD) (gap : Int) (o : Int) (k : Nat) (st : StP) : StP :=
  if st.code ≠ 0 then st else if inB o 0 ((np : Int) - 1) = true then
    (if (nextOf np g f st.P gap st.last o.toNat).1 = 0 then ⟨0, 0, moreP st.P o.toNat (nextOf np g f st.P gap st.last o.toNat).2, (nextOf np g f st.P gap st.last o.toNat).2⟩ else ⟨(nextOf np g f st.P gap st.last o.toNat).1, k, st.P, st.last⟩)
  else ⟨2, k, st.P, st.last⟩
noncomputable def runP (np : Nat) (g : Nat → Int) (f : Nat → TrainD) (gap : Int) (o : Nat → Int) : Nat → StP
  | 0 => ⟨0, 0, fun _ => ⟨0, fun _ => 0⟩, 0⟩
  | k + 1 => stepP np g f gap (o k) k (runP np g f gap o k)
/-- how many legs of each are placed, in all -/
def rowSumQ (P : Nat → RowD) : Nat → Nat
  | 0 => 0
  | i + 1 => rowSumQ P i + (P i).n
theorem rowSumQ_more {P : Nat → RowD} {i : Nat} {t : Int} : ∀ n, rowSumQ (moreP P i t) n = rowSumQ P n + (if i < n then 1 else 0)
  | 0 => rfl
  | n + 1 => by
    simp only [rowSumQ, rowSumQ_more n]
    by_cases e : n = i
    · subst e; simp [moreP]; omega
    · have h : (moreP P i t n).n = (P n).n := by simp [moreP, e]
      rw [h]
      by_cases h2 : i < n
      · rw [if_pos h2, if_pos (by omega)]; omega
      · rw [if_neg h2, if_neg (by omega)]; omega
/-- a run that has come so far without a code -/
structure RunOk (len np : Nat) (g : Nat → Int) (f : Nat → TrainD) (gap : Int) (st : StP) (k : Nat) : Prop where
  part : PartP np f st.P st.last
  lb : st.last ≤ 110000 + 20001 * (k : Int)
  sum : rowSumQ st.P np = k
theorem runP_zero (np : Nat) (g : Nat → Int) (f : Nat → TrainD) (gap : Int) (o : Nat → Int) (len : Nat) : RunOk len np g f gap (runP np g f gap o 0) 0 := by
  refine ⟨⟨fun j _ => Nat.zero_le _, fun j _ m hm => ?_, by show (0 : Int) ≤ 0; omega, by show (0 : Int) ≤ 600000; omega⟩, by show (0 : Int) ≤ _; omega, ?_⟩
  · exact absurd hm (Nat.not_lt_zero _)
  · show rowSumQ (fun _ => ⟨0, fun _ => 0⟩) np = 0
    induction np with
    | zero => rfl
    | succ n ih => simp only [rowSumQ, ih]
theorem runOk_step {len np : Nat} {g : Nat → Int} {gap : Int} {f : Nat → TrainD} (hR : RightL len np f) (hG : RightG len g gap np f) {st : StP} {k : Nat} (h : RunOk len np g f gap st k) (hc : st.code = 0) {i : Nat} (hi : i < np) {t : Int} (hk : (st.P i).n < (f i).nl) (hf : IsFirst np g f st.P (stOf f st.P i) (lowOf np f st.P gap st.last i) t) (hk10 : k < 10) :
    stepP np g f gap (i : Int) k st = ⟨0, 0, moreP st.P i t, t⟩ ∧ RunOk len np g f gap ⟨0, 0, moreP st.P i t, t⟩ (k + 1) := by
  have hn := nextOf_ok (np := np) (g := g) (gap := gap) (last := st.last) (by omega) hf
  have hp := h.part.more hR hG hi hk hf hk10 h.lb
  refine ⟨?_, hp.1, hp.2, ?_⟩
  · unfold stepP
    rw [if_neg (by simp [hc]), if_pos (by unfold inB; simp; omega), Int.toNat_natCast, hn, if_pos rfl]
  · show rowSumQ (moreP st.P i t) np = k + 1
    rw [rowSumQ_more, if_pos hi, h.sum]
end Go.Proofs.YtnjaegeapcijpaaDoor

namespace Go.Proofs.YtnjaegeapcijpaaDoor
open Go.RowKit

def freeH (f : Nat → TrainD) (P : Nat → RowD) (gap : Int) (j m : Nat) : Int := (P j).s m + ((f j).leg m).run + gap
theorem trackRow_is {f : Nat → TrainD} {P : Nat → RowD} {gap : Int} {i k j : Nat} {a : Int} : ∀ n, a ≤ trackRow f P gap i k j a n ∧ (∀ m, m < n → j ≠ i → trackOf (f j) m = trackOf (f i) k → freeH f P gap j m ≤ trackRow f P gap i k j a n) ∧
    (trackRow f P gap i k j a n = a ∨ ∃ m, m < n ∧ j ≠ i ∧ trackOf (f j) m = trackOf (f i) k ∧ trackRow f P gap i k j a n = freeH f P gap j m)
  | 0 => ⟨Int.le_refl _, fun m hm => absurd hm (Nat.not_lt_zero m), Or.inl rfl⟩
  | n + 1 => by
    obtain ⟨h1, h2, h3⟩ := trackRow_is (f := f) (P := P) (gap := gap) (i := i) (k := k) (j := j) (a := a) n
    simp only [trackRow]
    by_cases hc : j ≠ i ∧ trackOf (f j) n = trackOf (f i) k ∧ trackRow f P gap i k j a n < (P j).s n + ((f j).leg n).run + gap
    · rw [if_pos hc]
      refine ⟨by omega, fun m hm hj ht => ?_, Or.inr ⟨n, by omega, hc.1, hc.2.1, rfl⟩⟩
      rcases Nat.lt_or_ge m n with h | h
      · have := h2 m h hj ht; omega
      · obtain rfl : m = n := by omega
        exact Int.le_refl _
    · rw [if_neg hc]
      refine ⟨h1, fun m hm hj ht => ?_, ?_⟩
      · rcases Nat.lt_or_ge m n with h | h
        · exact h2 m h hj ht
        · obtain rfl : m = n := by omega
          exact Int.not_lt.1 (fun h4 => hc ⟨hj, ht, h4⟩)
      · rcases h3 with h3 | ⟨m, hm, hr⟩
        · exact Or.inl h3
        · exact Or.inr ⟨m, by omega, hr⟩
theorem trackAll_is {f : Nat → TrainD} {P : Nat → RowD} {gap : Int} {i k : Nat} {a : Int} : ∀ n, a ≤ trackAll f P gap i k a n ∧ (∀ j, j < n → ∀ m, m < (P j).n → j ≠ i → trackOf (f j) m = trackOf (f i) k → freeH f P gap j m ≤ trackAll f P gap i k a n) ∧
    (trackAll f P gap i k a n = a ∨ ∃ j m, j < n ∧ m < (P j).n ∧ j ≠ i ∧ trackOf (f j) m = trackOf (f i) k ∧ trackAll f P gap i k a n = freeH f P gap j m)
  | 0 => ⟨Int.le_refl _, fun j hj => absurd hj (Nat.not_lt_zero j), Or.inl rfl⟩
  | n + 1 => by
    obtain ⟨h1, h2, h3⟩ := trackAll_is (f := f) (P := P) (gap := gap) (i := i) (k := k) (a := a) n
    obtain ⟨r1, r2, r3⟩ := trackRow_is (f := f) (P := P) (gap := gap) (i := i) (k := k) (j := n) (a := trackAll f P gap i k a n) (P n).n
    simp only [trackAll]
    refine ⟨by omega, fun j hj m hm hji ht => ?_, ?_⟩
    · rcases Nat.lt_or_ge j n with h | h
      · have := h2 j h m hm hji ht; omega
      · obtain rfl : j = n := by omega
        exact r2 m hm hji ht
    · rcases r3 with r3 | ⟨m, hm, hji, ht, e⟩
      · rcases h3 with h3 | ⟨j, m, hj, hr⟩
        · exact Or.inl (r3.trans h3)
        · exact Or.inr ⟨j, m, by omega, hr.1, hr.2.1, hr.2.2.1, r3.trans hr.2.2.2⟩
      · exact Or.inr ⟨n, m, by omega, hm, hji, ht, e⟩

/-- who had a track last, from when, and from when on it is free -/
structure TrackD where
  tr : Nat
  frm : Int
  free : Int
/-- a board's tracks, and that each train's legs follow each other -/
structure TI (np : Nat) (f : Nat → TrainD) (P : Nat → RowD) (gap : Int) (T : Int → TrackD) : Prop where
  at_ : ∀ x, ((∀ j, j < np → ∀ m, m < (P j).n → trackOf (f j) m ≠ x) ∧ T x = ⟨0, 0, 0⟩) ∨
    (∃ j0 m0, j0 < np ∧ m0 < (P j0).n ∧ trackOf (f j0) m0 = x ∧ T x = ⟨j0, (P j0).s m0, freeH f P gap j0 m0⟩ ∧ ∀ j, j < np → ∀ m, m < (P j).n → trackOf (f j) m = x → (j ≠ j0 → freeH f P gap j m ≤ (P j0).s m0) ∧ freeH f P gap j m ≤ freeH f P gap j0 m0)
  chain : ∀ j, j < np → ∀ m, m + 1 < (P j).n → (P j).s m + ((f j).leg m).run ≤ (P j).s (m + 1)
def trackFreeD (T : Int → TrackD) (i : Nat) (x : Int) : Int := if ((T x).tr : Int) = (i : Int) then 0 else (T x).free
theorem TI.low {np : Nat} {f : Nat → TrainD} {P : Nat → RowD} {gap last : Int} {T : Int → TrackD} (h : TI np f P gap T) (hQ : PartP np f P last) {i k : Nat} {lw : Int} (hlw : last ≤ lw) :
    trackAll f P gap i k lw np = maxZ lw (trackFreeD T i (trackOf (f i) k)) := by
  obtain ⟨h1, h2, h3⟩ := trackAll_is (f := f) (P := P) (gap := gap) (i := i) (k := k) (a := lw) np
  have hl0 := hQ.l0
  unfold maxZ trackFreeD
  rcases h.at_ (trackOf (f i) k) with ⟨hno, hT⟩ | ⟨j0, m0, hj0, hm0, ht0, hT, hall⟩
  · rw [hT]
    have e : trackAll f P gap i k lw np = lw := by
      rcases h3 with h3 | ⟨j, m, hj, hm, _, ht, _⟩
      · exact h3
      · exact absurd ht (hno j hj m hm)
    rw [e]
    dsimp only
    split <;> split at * <;> omega
  · rw [hT]
    dsimp only
    by_cases hji : j0 = i
    · subst hji
      rw [if_pos rfl, if_neg (by omega : ¬ lw < 0)]
      rcases h3 with h3 | ⟨j, m, hj, hm, hji, ht, e⟩
      · exact h3
      · have h4 := (hall j hj m hm ht).1 hji
        have h5 := (hQ.at0 j0 hj0 m0 hm0).2
        omega
    · have e0 : ¬ ((j0 : Int) = (i : Int)) := by omega
      rw [if_neg e0]
      have h4 := h2 j0 hj0 m0 hm0 hji ht0
      rcases h3 with h3 | ⟨j, m, hj, hm, hji', ht, e⟩
      · rw [h3] at h4 ⊢; rw [if_neg (by omega)]
      · have h5 := (hall j hj m hm ht).2
        split <;> omega

theorem moreP_old {P : Nat → RowD} {i : Nat} {t : Int} {j m : Nat} (h : m < (P j).n) : (moreP P i t j).s m = (P j).s m := by
  unfold moreP
  by_cases e : j = i
  · subst e; rw [if_pos rfl]; dsimp only; rw [if_neg (by omega)]
  · rw [if_neg e]
theorem moreP_new {P : Nat → RowD} {i : Nat} {t : Int} : (moreP P i t i).s (P i).n = t := by
  unfold moreP; rw [if_pos rfl]; dsimp only; rw [if_pos rfl]
theorem moreP_n {P : Nat → RowD} {i : Nat} {t : Int} : (moreP P i t i).n = (P i).n + 1 := by unfold moreP; rw [if_pos rfl]
theorem moreP_other {P : Nat → RowD} {i : Nat} {t : Int} {j : Nat} (h : j ≠ i) : moreP P i t j = P j := by unfold moreP; rw [if_neg h]
theorem moreP_legs {P : Nat → RowD} {i : Nat} {t : Int} {j m : Nat} (h : m < (moreP P i t j).n) : m < (P j).n ∨ (j = i ∧ m = (P i).n) := by
  by_cases e : j = i
  · subst e; rw [moreP_n] at h; omega
  · rw [moreP_other e] at h; exact Or.inl h
theorem freeH_old {f : Nat → TrainD} {P : Nat → RowD} {gap : Int} {i : Nat} {t : Int} {j m : Nat} (h : m < (P j).n) : freeH f (moreP P i t) gap j m = freeH f P gap j m := by unfold freeH; rw [moreP_old h]
theorem moreP_lt {P : Nat → RowD} {i : Nat} {t : Int} {j m : Nat} (h : m < (P j).n) : m < (moreP P i t j).n := by
  by_cases e : j = i
  · subst e; rw [moreP_n]; omega
  · rw [moreP_other e]; exact h

theorem chain_le {f : Nat → TrainD} {r : RowD} {j : Nat} (hr : ∀ m, m < r.n → 0 ≤ ((f j).leg m).run) (hc : ∀ m, m + 1 < r.n → r.s m + ((f j).leg m).run ≤ r.s (m + 1)) : ∀ d m, m + d < r.n → r.s m + ((f j).leg m).run ≤ r.s (m + d) + ((f j).leg (m + d)).run
  | 0, _, _ => Int.le_refl _
  | d + 1, m, h => by
    have h1 := chain_le hr hc d m (by omega)
    have h2 := hc (m + d) (by omega)
    have h3 := hr (m + d + 1) (by omega)
    rw [show m + (d + 1) = m + d + 1 by omega]
    omega
theorem TI.more {np : Nat} {f : Nat → TrainD} {P : Nat → RowD} {gap last : Int} {T : Int → TrackD} (h : TI np f P gap T) {i : Nat} (hi : i < np) {t : Int} (hg : 0 ≤ gap) (hrun : ∀ j, j < np → ∀ m, m < (f j).nl → 0 ≤ ((f j).leg m).run) (hk : (P i).n < (f i).nl)
    (hlow : lowOf np f P gap last i ≤ t) (hrd : ∀ k, (P i).n = k + 1 → (P i).s k + ((f i).leg k).run ≤ t) :
    TI np f (moreP P i t) gap (fun x => if x = trackOf (f i) (P i).n then ⟨i, t, t + ((f i).leg (P i).n).run + gap⟩ else T x) := by
  have hfn : freeH f (moreP P i t) gap i (P i).n = t + ((f i).leg (P i).n).run + gap := by unfold freeH; rw [moreP_new]
  have hrk := hrun i hi _ hk
  refine ⟨fun x => ?_, fun j hj m hm => ?_⟩
  · by_cases hx : x = trackOf (f i) (P i).n
    · rw [if_pos hx]
      refine Or.inr ⟨i, (P i).n, hi, by rw [moreP_n]; omega, hx.symm, by rw [moreP_new, hfn], fun j hj m hm ht => ?_⟩
      rcases moreP_legs hm with hold | ⟨rfl, rfl⟩
      · rw [freeH_old hold, moreP_new, hfn]
        by_cases hji : j = i
        · subst hji
          refine ⟨fun e => absurd rfl e, ?_⟩
          cases hn : (P j).n with
          | zero => omega
          | succ k =>
            have h1 := hrd k hn
            have h2 := chain_le (f := f) (r := P j) (j := j) (fun m hm => hrun j hj m (by omega)) (h.chain j hj) (k - m) m (by omega)
            rw [show m + (k - m) = k by omega] at h2
            rw [hn] at hrk
            unfold freeH
            omega
        · have h1 := (trackAll_is (f := f) (P := P) (gap := gap) (i := i) (k := (P i).n) (a := maxZ (readyOf f P i (P i).n) last) np).2.1 j hj m hold hji (ht.trans hx)
          have h2 : freeH f P gap j m ≤ t := Int.le_trans h1 hlow
          exact ⟨fun _ => h2, by omega⟩
      · exact ⟨fun e => absurd rfl e, Int.le_refl _⟩
    · rw [if_neg hx]
      rcases h.at_ x with ⟨hno, hT⟩ | ⟨j0, m0, hj0, hm0, ht0, hT, hall⟩
      · refine Or.inl ⟨fun j hj m hm => ?_, hT⟩
        rcases moreP_legs hm with hold | ⟨rfl, rfl⟩
        · exact hno j hj m hold
        · exact fun e => hx e.symm
      · refine Or.inr ⟨j0, m0, hj0, moreP_lt hm0, ht0, by rw [moreP_old hm0, freeH_old hm0]; exact hT, fun j hj m hm ht => ?_⟩
        rcases moreP_legs hm with hold | ⟨rfl, rfl⟩
        · rw [freeH_old hold, moreP_old hm0, freeH_old hm0]
          exact hall j hj m hold ht
        · exact absurd ht.symm hx
  · by_cases hji : j = i
    · subst hji
      rw [moreP_n] at hm
      rw [moreP_old (by omega)]
      by_cases hl : m + 1 < (P j).n
      · rw [moreP_old hl]; exact h.chain j hj m hl
      · have e : (P j).n = m + 1 := by omega
        have h1 := hrd m e
        have h2 := moreP_new (P := P) (i := j) (t := t)
        rw [e] at h2
        rw [h2]; exact h1
    · rw [moreP_other hji] at hm ⊢
      exact h.chain j hj m hm
end Go.Proofs.YtnjaegeapcijpaaDoor

namespace Go.Proofs.YtnjaegeapcijpaaDoor
open Go.RowKit

/-- this leg has begun, and its train has a track of station s at a time -/
def nowB (f : Nat → TrainD) (P : Nat → RowD) (s t : Int) (j m : Nat) : Bool := decide ((P j).s m ≤ t) && hereB f P s t j m
def nowRow (f : Nat → TrainD) (P : Nat → RowD) (s t : Int) (j : Nat) : Nat → Nat
  | 0 => 0
  | m + 1 => nowRow f P s t j m + (if nowB f P s t j m = true then 1 else 0)
def nowAll (f : Nat → TrainD) (P : Nat → RowD) (s t : Int) : Nat → Nat
  | 0 => 0
  | j + 1 => nowAll f P s t j + nowRow f P s t j (P j).n
theorem nowRow_le (f : Nat → TrainD) (P : Nat → RowD) (s t : Int) (j : Nat) : ∀ m, nowRow f P s t j m ≤ thereRow f P s t j m
  | 0 => Nat.le_refl _
  | m + 1 => by
    have h0 := nowRow_le f P s t j m
    have h1 : nowB f P s t j m = true → hereB f P s t j m = true := by unfold nowB; rw [Bool.and_eq_true]; exact fun h => h.2
    simp only [nowRow, thereRow]
    by_cases e : nowB f P s t j m = true
    · rw [if_pos e, if_pos (h1 e)]; omega
    · rw [if_neg e]; omega
theorem nowAll_le (f : Nat → TrainD) (P : Nat → RowD) (s t : Int) : ∀ n, nowAll f P s t n ≤ thereAll f P s t n
  | 0 => Nat.le_refl _
  | n + 1 => by
    have h0 := nowAll_le f P s t n
    have h1 := nowRow_le f P s t n (P n).n
    simp only [nowAll, thereAll]; omega
theorem nowRow_same {f : Nat → TrainD} {P Q : Nat → RowD} {s t : Int} {j : Nat} : ∀ n, (∀ m, m < n → nowB f Q s t j m = nowB f P s t j m) → nowRow f Q s t j n = nowRow f P s t j n
  | 0, _ => rfl
  | n + 1, h => by simp only [nowRow]; rw [nowRow_same n (fun m hm => h m (by omega)), h n (by omega)]
theorem nowB_other {f : Nat → TrainD} {P : Nat → RowD} {i : Nat} {t s t' : Int} {j m : Nat} (h : j ≠ i) : nowB f (moreP P i t) s t' j m = nowB f P s t' j m := by
  unfold nowB hereB leaveO
  rw [moreP_other h]
theorem nowB_old {f : Nat → TrainD} {P : Nat → RowD} {i : Nat} {t s t' : Int} {m : Nat} (hk : (P i).n < (f i).nl) (hm : m < (P i).n) (ht : t' ≤ t) : nowB f (moreP P i t) s t' i m = nowB f P s t' i m := by
  unfold nowB hereB leaveO
  rw [moreP_old hm, moreP_n]
  by_cases e : m + 1 < (P i).n
  · rw [if_pos e, if_pos (by omega), moreP_old e]
  · have e2 : m + 1 = (P i).n := by omega
    have e3 : (moreP P i t i).s (m + 1) = t := by rw [e2]; exact moreP_new
    rw [if_neg e, if_pos (by omega), if_pos (by omega), e3]
    simp [ht]
theorem nowB_new {f : Nat → TrainD} {P : Nat → RowD} {i : Nat} {t s t' : Int} (h : t' < t ∨ stOf f P i ≠ s) : nowB f (moreP P i t) s t' i (P i).n = false := by
  unfold nowB hereB
  rw [moreP_new]
  rcases h with h | h
  · rw [decide_eq_false (by omega)]; rfl
  · have : ((f i).leg (P i).n).to ≠ s := h
    simp [this]
theorem nowRow_more {f : Nat → TrainD} {P : Nat → RowD} {i : Nat} {t s t' : Int} (hk : (P i).n < (f i).nl) (ht : t' ≤ t) : nowRow f (moreP P i t) s t' i ((P i).n + 1) = nowRow f P s t' i (P i).n + (if nowB f (moreP P i t) s t' i (P i).n = true then 1 else 0) := by
  simp only [nowRow]
  rw [nowRow_same (P := P) (P i).n (fun m hm => nowB_old hk hm ht)]
theorem nowAll_more {f : Nat → TrainD} {P : Nat → RowD} {i : Nat} {t s t' : Int} (hk : (P i).n < (f i).nl) (ht : t' ≤ t) : ∀ n, nowAll f (moreP P i t) s t' n = nowAll f P s t' n + (if i < n ∧ nowB f (moreP P i t) s t' i (P i).n = true then 1 else 0)
  | 0 => by simp [nowAll]
  | n + 1 => by
    simp only [nowAll]
    rw [nowAll_more hk ht n]
    by_cases e : n = i
    · subst e
      rw [moreP_n, nowRow_more hk ht, if_neg (by omega)]
      by_cases hb : nowB f (moreP P n t) s t' n (P n).n = true
      · rw [if_pos hb, if_pos ⟨by omega, hb⟩]; omega
      · rw [if_neg hb, if_neg (by simp [hb])]; omega
    · rw [moreP_other e, nowRow_same (P := P) (P n).n (fun m _ => nowB_other e)]
      by_cases h2 : i < n ∧ nowB f (moreP P i t) s t' i (P i).n = true
      · rw [if_pos h2, if_pos ⟨by omega, h2.2⟩]; omega
      · rw [if_neg h2, if_neg (fun h3 => h2 ⟨by omega, h3.2⟩)]; omega
/-- no leg of those placed clashes -/
structure NoC (np : Nat) (g : Nat → Int) (gap : Int) (f : Nat → TrainD) (P : Nat → RowD) : Prop where
  ready : ∀ j, j < np → ∀ m, m < (P j).n → readyOf f P j m ≤ (P j).s m
  track : ∀ i, i < np → ∀ k, k < (P i).n → ∀ j, j < np → ∀ m, m < (P j).n → i ≠ j → trackOf (f i) k = trackOf (f j) m → freeH f P gap j m ≤ (P i).s k ∨ freeH f P gap i k ≤ (P j).s m
  room : ∀ i, i < np → ∀ k, k < (P i).n → (nowAll f P ((f i).leg k).to ((P i).s k) np : Int) ≤ g ((f i).leg k).to.toNat
theorem NoC.start (np : Nat) (g : Nat → Int) (gap : Int) (f : Nat → TrainD) : NoC np g gap f (fun _ => ⟨0, fun _ => 0⟩) :=
  ⟨fun _ _ _ hm => absurd hm (Nat.not_lt_zero _), fun _ _ _ hk => absurd hk (Nat.not_lt_zero _), fun _ _ _ hk => absurd hk (Nat.not_lt_zero _)⟩
theorem readyOf_more {f : Nat → TrainD} {P : Nat → RowD} {i : Nat} {t : Int} {j m : Nat} (h : m ≤ (P j).n) : readyOf f (moreP P i t) j m = readyOf f P j m := by
  cases m with
  | zero => rfl
  | succ m => simp only [readyOf]; rw [moreP_old (by omega)]
theorem NoC.more {np : Nat} {g : Nat → Int} {gap : Int} {f : Nat → TrainD} {P : Nat → RowD} {last t : Int} (h : NoC np g gap f P) (hQ : PartP np f P last) {i : Nat} (hi : i < np) (hk : (P i).n < (f i).nl) (hf : IsFirst np g f P (stOf f P i) (lowOf np f P gap last i) t) : NoC np g gap f (moreP P i t) := by
  obtain ⟨l1, l2, _⟩ := trackAll_is (f := f) (P := P) (gap := gap) (i := i) (k := (P i).n) (a := maxZ (readyOf f P i (P i).n) last) np
  have hlow : trackAll f P gap i (P i).n (maxZ (readyOf f P i (P i).n) last) np ≤ t := hf.1
  have hmx : readyOf f P i (P i).n ≤ maxZ (readyOf f P i (P i).n) last ∧ last ≤ maxZ (readyOf f P i (P i).n) last := by unfold maxZ; split <;> omega
  have hfull : (thereAll f P (stOf f P i) t np : Int) < g (stOf f P i).toNat := by
    have := hf.2.1; unfold fullAt at this; omega
  have hnow : ((nowAll f P (stOf f P i) t np : Nat) : Int) + 1 ≤ g (stOf f P i).toNat := by
    have := nowAll_le f P (stOf f P i) t np; omega
  refine ⟨fun j hj m hm => ?_, fun a ha k hka j hj m hm hne htr => ?_, fun j hj m hm => ?_⟩
  · rcases moreP_legs hm with h1 | ⟨rfl, rfl⟩
    · rw [readyOf_more (by omega), moreP_old h1]; exact h.ready j hj m h1
    · rw [readyOf_more (Nat.le_refl _), moreP_new]; omega
  · rcases moreP_legs hka with h1 | ⟨rfl, rfl⟩
    · rcases moreP_legs hm with h2 | ⟨rfl, rfl⟩
      · rw [freeH_old h1, freeH_old h2, moreP_old h1, moreP_old h2]; exact h.track a ha k h1 j hj m h2 hne htr
      · rw [freeH_old h1, moreP_new]
        have := l2 a ha k h1 hne htr
        exact Or.inr (by omega)
    · rcases moreP_legs hm with h2 | ⟨rfl, rfl⟩
      · rw [freeH_old h2, moreP_new]
        have := l2 j hj m h2 (fun e => hne e.symm) htr.symm
        exact Or.inl (by omega)
      · exact absurd rfl hne
  · rcases moreP_legs hm with h1 | ⟨rfl, rfl⟩
    · have hl := (hQ.at0 j hj m h1).2
      have hr := h.room j hj m h1
      rw [moreP_old h1, nowAll_more hk (by omega)]
      by_cases hb : i < np ∧ nowB f (moreP P i t) ((f j).leg m).to ((P j).s m) i (P i).n = true
      · rw [if_pos hb]
        have hst : stOf f P i = ((f j).leg m).to ∧ t ≤ (P j).s m := by
          refine ⟨Classical.byContradiction fun e => ?_, Int.not_lt.1 fun e => ?_⟩
          · rw [nowB_new (Or.inr e)] at hb; exact absurd hb.2 (by decide)
          · rw [nowB_new (Or.inl e)] at hb; exact absurd hb.2 (by decide)
        have ht : (P j).s m = t := by omega
        rw [← hst.1, ht]
        omega
      · rw [if_neg hb]; exact hr
    · rw [moreP_new, nowAll_more hk (Int.le_refl _)]
      show ((nowAll f P (stOf f P j) t np + _ : Nat) : Int) ≤ g (stOf f P j).toNat
      split <;> omega
theorem leavesOf_ge {len np : Nat} {g : Nat → Int} {gap : Int} {f : Nat → TrainD} {P : Nat → RowD} (hR : RightL len np f) (h : NoC np g gap f P) (hn : ∀ j, j < np → (P j).n = (f j).nl) {i k : Nat} (hi : i < np) (hk : k < (f i).nl) : (P i).s k ≤ leavesOf f P i k := by
  have hl := (hR.train i hi).leg k hk
  unfold leavesOf
  split
  · rename_i e
    have h1 := h.ready i hi (k + 1) e
    have h2 := (hR.train i hi).leg (k + 1) (by rw [← hn i hi]; exact e)
    simp only [readyOf] at h1
    omega
  · omega
theorem count_le {len np : Nat} {g : Nat → Int} {gap : Int} {f : Nat → TrainD} {P : Nat → RowD} (hR : RightL len np f) (h : NoC np g gap f P) (hn : ∀ j, j < np → (P j).n = (f j).nl) {i k : Nat} (hi : i < np) (hk : k < (f i).nl) {j : Nat} (hj : j < np) : ∀ m, m ≤ (f j).nl → countRow f P i k j m ≤ nowRow f P ((f i).leg k).to ((P i).s k) j m
  | 0, _ => Nat.le_refl _
  | m + 1, hm => by
    have h0 := count_le hR h hn hi hk hj m (by omega)
    simp only [countRow, nowRow]
    by_cases hs : skipB f P i k j m = true
    · rw [if_pos hs]; omega
    · have hb : nowB f P ((f i).leg k).to ((P i).s k) j m = true := by
        unfold skipB at hs
        rw [decide_eq_true_eq] at hs
        have hto : ((f j).leg m).to = ((f i).leg k).to := Classical.byContradiction fun e => hs (Or.inl e)
        have hle : (P j).s m ≤ (P i).s k := Int.not_lt.1 fun e => hs (Or.inr (Or.inl e))
        have hlv : (P i).s k ≤ leavesOf f P j m := by
          refine Int.not_lt.1 fun e => ?_
          by_cases hjm : j = i ∧ m = k
          · obtain ⟨rfl, rfl⟩ := hjm
            have := leavesOf_ge hR h hn hi hk
            omega
          · exact hs (Or.inr (Or.inr (Or.inr ⟨e, by by_cases hji : j = i; exact Or.inr (fun e2 => hjm ⟨hji, e2⟩); exact Or.inl hji⟩)))
        have hlo : leaveO f P j m = some (leavesOf f P j m) := by
          unfold leaveO leavesOf
          by_cases e : m + 1 < (P j).n
          · rw [if_pos e, if_pos e]
          · rw [if_neg e, if_neg e, if_neg (by rw [← hn j hj]; exact e)]
        unfold nowB hereB
        rw [hlo]
        simp [hto, hle, hlv]
      rw [if_neg hs, if_pos hb]; omega
theorem countAll_now {len np : Nat} {g : Nat → Int} {gap : Int} {f : Nat → TrainD} {P : Nat → RowD} (hR : RightL len np f) (h : NoC np g gap f P) (hn : ∀ j, j < np → (P j).n = (f j).nl) {i k : Nat} (hi : i < np) (hk : k < (f i).nl) : ∀ n, n ≤ np → countAll f P i k n ≤ nowAll f P ((f i).leg k).to ((P i).s k) n
  | 0, _ => Nat.le_refl _
  | n + 1, hle => by
    have h0 := countAll_now hR h hn hi hk n (by omega)
    have h1 := count_le hR h hn hi hk (show n < np by omega) (f n).nl (Nat.le_refl _)
    simp only [countAll, nowAll]
    rw [hn n (by omega)]
    omega
/-- a plan, whole, of legs none of which clashes, can be -/
theorem NoC.clash {len np : Nat} {g : Nat → Int} {gap last : Int} {f : Nat → TrainD} {P : Nat → RowD} (hF : faultOf len g gap np f = (0, 0)) (h : NoC np g gap f P) (hQ : PartP np f P last) (hn : ∀ j, j < np → (P j).n = (f j).nl) : clashOf len g gap np f np P = (0, 0, 0, 0) := by
  have hR := rightL_of hF
  have hG := rightG_of hF
  have hS : shapeB np f np P = true := by
    unfold shapeB
    rw [decide_eq_true_eq]
    refine ⟨rfl, fun i hi => ⟨hn i hi, fun k hk => ?_⟩⟩
    have h1 := hQ.at0 i hi k hk
    have h2 := hQ.l1
    unfold inB
    rw [decide_eq_true_eq]
    omega
  refine clashOf_zero hF hS (fun j hj m hm => h.ready j hj m (by rw [hn j hj]; exact hm)) (fun i hi k hk => withOf_none (fun j hj m hm => ?_)) (fun i hi k hk => ?_)
  · unfold onB
    rw [decide_eq_false_iff_not]
    rintro ⟨hne, htr, h1, _, h3⟩
    have hrun := (hR.train i hi).leg k hk
    have hg := hG.g0
    rcases h.track i hi k (by rw [hn i hi]; exact hk) j hj m (by rw [hn j hj]; exact hm) hne htr with e | e
    · unfold freeH at e; omega
    · unfold freeH at e; omega
  · unfold fullB
    rw [decide_eq_false_iff_not]
    have h1 := h.room i hi k (by rw [hn i hi]; exact hk)
    have h2 := countAll_now hR h hn hi hk np (Nat.le_refl _)
    omega
end Go.Proofs.YtnjaegeapcijpaaDoor
