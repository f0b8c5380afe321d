/-
  The tracks of a board: the last hold of a track says from when on it is free.
  The plan of an order has no clash.
  A train alone on its line: plain.
  The program's three looks at a leg: too soon, on a track that is taken, to a station that is full.
  The program's board: what its small questions answer.
  A heap of numbers as plain data: pushing up, pulling down, the least of three.
  The program's heap of ends: its steps.
  The program's heap of ends: one more in it.
  Who is still at a station: how many of a row of ends are not over at a tick, and what is left when the least are taken out.
-/
import Derived.Test.YtelickcfodcmaaaGreatDoorGC
import Derived.Test.YtelickcfodcmaaaGreatDoorApp
import Derived.Test.YtelickcfodcmaaaGreatDoorImplX
import Derived.Test.YtelickcfodcmaaaGreatDoorGA
import Derived.Test.YtelickcfodcmaaaGreatDoorSpecC
import Derived.Test.YtelickcfodcmaaaGreatDoorSmall
import Derived.Test.YtelickcfodcmaaaGreatDoorSpecN
import Derived.Test.YtelickcfodcmaaaGreatDoorBase
import Derived.Test.YtelickcfodcmaaaGreatDoorSpecQ
import Derived.BigRegion
namespace Go.Proofs.YtelickcfodcmaaaGreatDoor
open Go.RowKit

def freeH (f : Nat → TrainD) (P : Nat → RowD) (gap : Int) (j m : Nat) : Int := (P j).s m + ((f j).leg m).run + gap
theorem trackRow_is {f : Nat → TrainD} {P : Nat → RowD} {gap : Int} {i k j : Nat} {a : Int} : ∀ n, a ≤ trackRow f P gap i k j a n ∧ (∀ m, m < n → j ≠ i → trackOf (f j) m = trackOf (f i) k → freeH f P gap j m ≤ trackRow f P gap i k j a n) ∧
    (trackRow f P gap i k j a n = a ∨ ∃ m, m < n ∧ j ≠ i ∧ trackOf (f j) m = trackOf (f i) k ∧ trackRow f P gap i k j a n = freeH f P gap j m)
  | 0 => ⟨Int.le_refl _, fun m hm => absurd hm (Nat.not_lt_zero m), Or.inl rfl⟩
  | n + 1 => by
    obtain ⟨h1, h2, h3⟩ := trackRow_is (f := f) (P := P) (gap := gap) (i := i) (k := k) (j := j) (a := a) n
    simp only [trackRow]
    by_cases hc : j ≠ i ∧ trackOf (f j) n = trackOf (f i) k ∧ trackRow f P gap i k j a n < (P j).s n + ((f j).leg n).run + gap
    · rw [if_pos hc]
      refine ⟨by omega, fun m hm hj ht => ?_, Or.inr ⟨n, by omega, hc.1, hc.2.1, rfl⟩⟩
      rcases Nat.lt_or_ge m n with h | h
      · have := h2 m h hj ht; omega
      · obtain rfl : m = n := by omega
        exact Int.le_refl _
    · rw [if_neg hc]
      refine ⟨h1, fun m hm hj ht => ?_, ?_⟩
      · rcases Nat.lt_or_ge m n with h | h
        · exact h2 m h hj ht
        · obtain rfl : m = n := by omega
          exact Int.not_lt.1 (fun h4 => hc ⟨hj, ht, h4⟩)
      · rcases h3 with h3 | ⟨m, hm, hr⟩
        · exact Or.inl h3
        · exact Or.inr ⟨m, by omega, hr⟩
theorem trackAll_is {f : Nat → TrainD} {P : Nat → RowD} {gap : Int} {i k : Nat} {a : Int} : ∀ n, a ≤ trackAll f P gap i k a n ∧ (∀ j, j < n → ∀ m, m < (P j).n → j ≠ i → trackOf (f j) m = trackOf (f i) k → freeH f P gap j m ≤ trackAll f P gap i k a n) ∧
    (trackAll f P gap i k a n = a ∨ ∃ j m, j < n ∧ m < (P j).n ∧ j ≠ i ∧ trackOf (f j) m = trackOf (f i) k ∧ trackAll f P gap i k a n = freeH f P gap j m)
  | 0 => ⟨Int.le_refl _, fun j hj => absurd hj (Nat.not_lt_zero j), Or.inl rfl⟩
  | n + 1 => by
    obtain ⟨h1, h2, h3⟩ := trackAll_is (f := f) (P := P) (gap := gap) (i := i) (k := k) (a := a) n
    obtain ⟨r1, r2, r3⟩ := trackRow_is (f := f) (P := P) (gap := gap) (i := i) (k := k) (j := n) (a := trackAll f P gap i k a n) (P n).n
    simp only [trackAll]
    refine ⟨by omega, fun j hj m hm hji ht => ?_, ?_⟩
    · rcases Nat.lt_or_ge j n with h | h
      · have := h2 j h m hm hji ht; omega
      · obtain rfl : j = n := by omega
        exact r2 m hm hji ht
    · rcases r3 with r3 | ⟨m, hm, hji, ht, e⟩
      · rcases h3 with h3 | ⟨j, m, hj, hr⟩
        · exact Or.inl (r3.trans h3)
        · exact Or.inr ⟨j, m, by omega, hr.1, hr.2.1, hr.2.2.1, r3.trans hr.2.2.2⟩
      · exact Or.inr ⟨n, m, by omega, hm, hji, ht, e⟩

/-- who had a track last, from when, and from when on it is free -/
structure TrackD where
  tr : Nat
  frm : Int
  free : Int
/-- a board's tracks, and that each train's legs follow each other -/
structure TI (np : Nat) (f : Nat → TrainD) (P : Nat → RowD) (gap : Int) (T : Int → TrackD) : Prop where
  at_ : ∀ x, ((∀ j, j < np → ∀ m, m < (P j).n → trackOf (f j) m ≠ x) ∧ T x = ⟨0, 0, 0⟩) ∨
    (∃ j0 m0, j0 < np ∧ m0 < (P j0).n ∧ trackOf (f j0) m0 = x ∧ T x = ⟨j0, (P j0).s m0, freeH f P gap j0 m0⟩ ∧ ∀ j, j < np → ∀ m, m < (P j).n → trackOf (f j) m = x → (j ≠ j0 → freeH f P gap j m ≤ (P j0).s m0) ∧ freeH f P gap j m ≤ freeH f P gap j0 m0)
  chain : ∀ j, j < np → ∀ m, m + 1 < (P j).n → (P j).s m + ((f j).leg m).run ≤ (P j).s (m + 1)
def trackFreeD (T : Int → TrackD) (i : Nat) (x : Int) : Int := if ((T x).tr : Int) = (i : Int) then 0 else (T x).free
theorem TI.low {np : Nat} {f : Nat → TrainD} {P : Nat → RowD} {gap last : Int} {T : Int → TrackD} (h : TI np f P gap T) (hQ : PartP np f P last) {i k : Nat} {lw : Int} (hlw : last ≤ lw) :
    trackAll f P gap i k lw np = maxZ lw (trackFreeD T i (trackOf (f i) k)) := by
  obtain ⟨h1, h2, h3⟩ := trackAll_is (f := f) (P := P) (gap := gap) (i := i) (k := k) (a := lw) np
  have hl0 := hQ.l0
  unfold maxZ trackFreeD
  rcases h.at_ (trackOf (f i) k) with ⟨hno, hT⟩ | ⟨j0, m0, hj0, hm0, ht0, hT, hall⟩
  · rw [hT]
    have e : trackAll f P gap i k lw np = lw := by
      rcases h3 with h3 | ⟨j, m, hj, hm, _, ht, _⟩
      · exact h3
      · exact absurd ht (hno j hj m hm)
    rw [e]
    dsimp only
    split <;> split at * <;> omega
  · rw [hT]
    dsimp only
    by_cases hji : j0 = i
    · subst hji
      rw [if_pos rfl, if_neg (by omega : ¬ lw < 0)]
      rcases h3 with h3 | ⟨j, m, hj, hm, hji, ht, e⟩
      · exact h3
      · have h4 := (hall j hj m hm ht).1 hji
        have h5 := (hQ.at0 j0 hj0 m0 hm0).2
        omega
    · have e0 : ¬ ((j0 : Int) = (i : Int)) := by omega
      rw [if_neg e0]
      have h4 := h2 j0 hj0 m0 hm0 hji ht0
      rcases h3 with h3 | ⟨j, m, hj, hm, hji', ht, e⟩
      · rw [h3] at h4 ⊢; rw [if_neg (by omega)]
      · have h5 := (hall j hj m hm ht).2
        split <;> omega

theorem moreP_old {P : Nat → RowD} {i : Nat} {t : Int} {j m : Nat} (h : m < (P j).n) : (moreP P i t j).s m = (P j).s m := by
  unfold moreP
  by_cases e : j = i
  · subst e; rw [if_pos rfl]; dsimp only; rw [if_neg (by omega)]
  · rw [if_neg e]
theorem moreP_new {P : Nat → RowD} {i : Nat} {t : Int} : (moreP P i t i).s (P i).n = t := by
  unfold moreP; rw [if_pos rfl]; dsimp only; rw [if_pos rfl]
theorem moreP_n {P : Nat → RowD} {i : Nat} {t : Int} : (moreP P i t i).n = (P i).n + 1 := by unfold moreP; rw [if_pos rfl]
theorem moreP_other {P : Nat → RowD} {i : Nat} {t : Int} {j : Nat} (h : j ≠ i) : moreP P i t j = P j := by unfold moreP; rw [if_neg h]
theorem moreP_legs {P : Nat → RowD} {i : Nat} {t : Int} {j m : Nat} (h : m < (moreP P i t j).n) : m < (P j).n ∨ (j = i ∧ m = (P i).n) := by
  by_cases e : j = i
  · subst e; rw [moreP_n] at h; omega
  · rw [moreP_other e] at h; exact Or.inl h
theorem freeH_old {f : Nat → TrainD} {P : Nat → RowD} {gap : Int} {i : Nat} {t : Int} {j m : Nat} (h : m < (P j).n) : freeH f (moreP P i t) gap j m = freeH f P gap j m := by unfold freeH; rw [moreP_old h]
theorem moreP_lt {P : Nat → RowD} {i : Nat} {t : Int} {j m : Nat} (h : m < (P j).n) : m < (moreP P i t j).n := by
  by_cases e : j = i
  · subst e; rw [moreP_n]; omega
  · rw [moreP_other e]; exact h

theorem chain_le {f : Nat → TrainD} {r : RowD} {j : Nat} (hr : ∀ m, m < r.n → 0 ≤ ((f j).leg m).run) (hc : ∀ m, m + 1 < r.n → r.s m + ((f j).leg m).run ≤ r.s (m + 1)) : ∀ d m, m + d < r.n → r.s m + ((f j).leg m).run ≤ r.s (m + d) + ((f j).leg (m + d)).run
  | 0, _, _ => Int.le_refl _
  | d + 1, m, h => by
    have h1 := chain_le hr hc d m (by omega)
    have h2 := hc (m + d) (by omega)
    have h3 := hr (m + d + 1) (by omega)
    rw [show m + (d + 1) = m + d + 1 by omega]
    omega
theorem TI.more {np : Nat} {f : Nat → TrainD} {P : Nat → RowD} {gap last : Int} {T : Int → TrackD} (h : TI np f P gap T) {i : Nat} (hi : i < np) {t : Int} (hg : 0 ≤ gap) (hrun : ∀ j, j < np → ∀ m, m < (f j).nl → 0 ≤ ((f j).leg m).run) (hk : (P i).n < (f i).nl)
    (hlow : lowOf np f P gap last i ≤ t) (hrd : ∀ k, (P i).n = k + 1 → (P i).s k + ((f i).leg k).run ≤ t) :
    TI np f (moreP P i t) gap (fun x => if x = trackOf (f i) (P i).n then ⟨i, t, t + ((f i).leg (P i).n).run + gap⟩ else T x) := by
  have hfn : freeH f (moreP P i t) gap i (P i).n = t + ((f i).leg (P i).n).run + gap := by unfold freeH; rw [moreP_new]
  have hrk := hrun i hi _ hk
  refine ⟨fun x => ?_, fun j hj m hm => ?_⟩
  · by_cases hx : x = trackOf (f i) (P i).n
    · rw [if_pos hx]
      refine Or.inr ⟨i, (P i).n, hi, by rw [moreP_n]; omega, hx.symm, by rw [moreP_new, hfn], fun j hj m hm ht => ?_⟩
      rcases moreP_legs hm with hold | ⟨rfl, rfl⟩
      · rw [freeH_old hold, moreP_new, hfn]
        by_cases hji : j = i
        · subst hji
          refine ⟨fun e => absurd rfl e, ?_⟩
          cases hn : (P j).n with
          | zero => omega
          | succ k =>
            have h1 := hrd k hn
            have h2 := chain_le (f := f) (r := P j) (j := j) (fun m hm => hrun j hj m (by omega)) (h.chain j hj) (k - m) m (by omega)
            rw [show m + (k - m) = k by omega] at h2
            rw [hn] at hrk
            unfold freeH
            omega
        · have h1 := (trackAll_is (f := f) (P := P) (gap := gap) (i := i) (k := (P i).n) (a := maxZ (readyOf f P i (P i).n) last) np).2.1 j hj m hold hji (ht.trans hx)
          have h2 : freeH f P gap j m ≤ t := Int.le_trans h1 hlow
          exact ⟨fun _ => h2, by omega⟩
      · exact ⟨fun e => absurd rfl e, Int.le_refl _⟩
    · rw [if_neg hx]
      rcases h.at_ x with ⟨hno, hT⟩ | ⟨j0, m0, hj0, hm0, ht0, hT, hall⟩
      · refine Or.inl ⟨fun j hj m hm => ?_, hT⟩
        rcases moreP_legs hm with hold | ⟨rfl, rfl⟩
        · exact hno j hj m hold
        · exact fun e => hx e.symm
      · refine Or.inr ⟨j0, m0, hj0, moreP_lt hm0, ht0, by rw [moreP_old hm0, freeH_old hm0]; exact hT, fun j hj m hm ht => ?_⟩
        rcases moreP_legs hm with hold | ⟨rfl, rfl⟩
        · rw [freeH_old hold, moreP_old hm0, freeH_old hm0]
          exact hall j hj m hold ht
        · exact absurd ht.symm hx
  · by_cases hji : j = i
    · subst hji
      rw [moreP_n] at hm
      rw [moreP_old (by omega)]
      by_cases hl : m + 1 < (P j).n
      · rw [moreP_old hl]; exact h.chain j hj m hl
      · have e : (P j).n = m + 1 := by omega
        have h1 := hrd m e
        have h2 := moreP_new (P := P) (i := j) (t := t)
        rw [e] at h2
        rw [h2]; exact h1
    · rw [moreP_other hji] at hm ⊢
      exact h.chain j hj m hm
end Go.Proofs.YtelickcfodcmaaaGreatDoor

namespace Go.Proofs.YtelickcfodcmaaaGreatDoor
open Go.RowKit

/-- this leg has begun, and its train has a track of station s at a time -/
def nowB (f : Nat → TrainD) (P : Nat → RowD) (s t : Int) (j m : Nat) : Bool := decide ((P j).s m ≤ t) && hereB f P s t j m
def nowRow (f : Nat → TrainD) (P : Nat → RowD) (s t : Int) (j : Nat) : Nat → Nat
  | 0 => 0
  | m + 1 => nowRow f P s t j m + (if nowB f P s t j m = true then 1 else 0)
def nowAll (f : Nat → TrainD) (P : Nat → RowD) (s t : Int) : Nat → Nat
  | 0 => 0
  | j + 1 => nowAll f P s t j + nowRow f P s t j (P j).n
theorem nowRow_le (f : Nat → TrainD) (P : Nat → RowD) (s t : Int) (j : Nat) : ∀ m, nowRow f P s t j m ≤ thereRow f P s t j m
  | 0 => Nat.le_refl _
  | m + 1 => by
    have h0 := nowRow_le f P s t j m
    have h1 : nowB f P s t j m = true → hereB f P s t j m = true := by unfold nowB; rw [Bool.and_eq_true]; exact fun h => h.2
    simp only [nowRow, thereRow]
    by_cases e : nowB f P s t j m = true
    · rw [if_pos e, if_pos (h1 e)]; omega
    · rw [if_neg e]; omega
theorem nowAll_le (f : Nat → TrainD) (P : Nat → RowD) (s t : Int) : ∀ n, nowAll f P s t n ≤ thereAll f P s t n
  | 0 => Nat.le_refl _
  | n + 1 => by
    have h0 := nowAll_le f P s t n
    have h1 := nowRow_le f P s t n (P n).n
    simp only [nowAll, thereAll]; omega
theorem nowRow_same {f : Nat → TrainD} {P Q : Nat → RowD} {s t : Int} {j : Nat} : ∀ n, (∀ m, m < n → nowB f Q s t j m = nowB f P s t j m) → nowRow f Q s t j n = nowRow f P s t j n
  | 0, _ => rfl
  | n + 1, h => by simp only [nowRow]; rw [nowRow_same n (fun m hm => h m (by omega)), h n (by omega)]
theorem nowB_other {f : Nat → TrainD} {P : Nat → RowD} {i : Nat} {t s t' : Int} {j m : Nat} (h : j ≠ i) : nowB f (moreP P i t) s t' j m = nowB f P s t' j m := by
  unfold nowB hereB leaveO
  rw [moreP_other h]
theorem nowB_old {f : Nat → TrainD} {P : Nat → RowD} {i : Nat} {t s t' : Int} {m : Nat} (hk : (P i).n < (f i).nl) (hm : m < (P i).n) (ht : t' ≤ t) : nowB f (moreP P i t) s t' i m = nowB f P s t' i m := by
  unfold nowB hereB leaveO
  rw [moreP_old hm, moreP_n]
  by_cases e : m + 1 < (P i).n
  · rw [if_pos e, if_pos (by omega), moreP_old e]
  · have e2 : m + 1 = (P i).n := by omega
    have e3 : (moreP P i t i).s (m + 1) = t := by rw [e2]; exact moreP_new
    rw [if_neg e, if_pos (by omega), if_pos (by omega), e3]
    simp [ht]
theorem nowB_new {f : Nat → TrainD} {P : Nat → RowD} {i : Nat} {t s t' : Int} (h : t' < t ∨ stOf f P i ≠ s) : nowB f (moreP P i t) s t' i (P i).n = false := by
  unfold nowB hereB
  rw [moreP_new]
  rcases h with h | h
  · rw [decide_eq_false (by omega)]; rfl
  · have : ((f i).leg (P i).n).to ≠ s := h
    simp [this]
theorem nowRow_more {f : Nat → TrainD} {P : Nat → RowD} {i : Nat} {t s t' : Int} (hk : (P i).n < (f i).nl) (ht : t' ≤ t) : nowRow f (moreP P i t) s t' i ((P i).n + 1) = nowRow f P s t' i (P i).n + (if nowB f (moreP P i t) s t' i (P i).n = true then 1 else 0) := by
  simp only [nowRow]
  rw [nowRow_same (P := P) (P i).n (fun m hm => nowB_old hk hm ht)]
theorem nowAll_more {f : Nat → TrainD} {P : Nat → RowD} {i : Nat} {t s t' : Int} (hk : (P i).n < (f i).nl) (ht : t' ≤ t) : ∀ n, nowAll f (moreP P i t) s t' n = nowAll f P s t' n + (if i < n ∧ nowB f (moreP P i t) s t' i (P i).n = true then 1 else 0)
  | 0 => by simp [nowAll]
  | n + 1 => by
    simp only [nowAll]
    rw [nowAll_more hk ht n]
    by_cases e : n = i
    · subst e
      rw [moreP_n, nowRow_more hk ht, if_neg (by omega)]
      by_cases hb : nowB f (moreP P n t) s t' n (P n).n = true
      · rw [if_pos hb, if_pos ⟨by omega, hb⟩]; omega
      · rw [if_neg hb, if_neg (by simp [hb])]; omega
    · rw [moreP_other e, nowRow_same (P := P) (P n).n (fun m _ => nowB_other e)]
      by_cases h2 : i < n ∧ nowB f (moreP P i t) s t' i (P i).n = true
      · rw [if_pos h2, if_pos ⟨by omega, h2.2⟩]; omega
      · rw [if_neg h2, if_neg (fun h3 => h2 ⟨by omega, h3.2⟩)]; omega
/-- no leg of those placed clashes -/
structure NoC (np : Nat) (g : Nat → Int) (gap : Int) (f : Nat → TrainD) (P : Nat → RowD) : Prop where
  ready : ∀ j, j < np → ∀ m, m < (P j).n → readyOf f P j m ≤ (P j).s m
  track : ∀ i, i < np → ∀ k, k < (P i).n → ∀ j, j < np → ∀ m, m < (P j).n → i ≠ j → trackOf (f i) k = trackOf (f j) m → freeH f P gap j m ≤ (P i).s k ∨ freeH f P gap i k ≤ (P j).s m
  room : ∀ i, i < np → ∀ k, k < (P i).n → (nowAll f P ((f i).leg k).to ((P i).s k) np : Int) ≤ g ((f i).leg k).to.toNat
theorem NoC.start (np : Nat) (g : Nat → Int) (gap : Int) (f : Nat → TrainD) : NoC np g gap f (fun _ => ⟨0, fun _ => 0⟩) :=
  ⟨fun _ _ _ hm => absurd hm (Nat.not_lt_zero _), fun _ _ _ hk => absurd hk (Nat.not_lt_zero _), fun _ _ _ hk => absurd hk (Nat.not_lt_zero _)⟩
theorem readyOf_more {f : Nat → TrainD} {P : Nat → RowD} {i : Nat} {t : Int} {j m : Nat} (h : m ≤ (P j).n) : readyOf f (moreP P i t) j m = readyOf f P j m := by
  cases m with
  | zero => rfl
  | succ m => simp only [readyOf]; rw [moreP_old (by omega)]
theorem NoC.more {np : Nat} {g : Nat → Int} {gap : Int} {f : Nat → TrainD} {P : Nat → RowD} {last t : Int} (h : NoC np g gap f P) (hQ : PartP np f P last) {i : Nat} (hi : i < np) (hk : (P i).n < (f i).nl) (hf : IsFirst np g f P (stOf f P i) (lowOf np f P gap last i) t) : NoC np g gap f (moreP P i t) := by
  obtain ⟨l1, l2, _⟩ := trackAll_is (f := f) (P := P) (gap := gap) (i := i) (k := (P i).n) (a := maxZ (readyOf f P i (P i).n) last) np
  have hlow : trackAll f P gap i (P i).n (maxZ (readyOf f P i (P i).n) last) np ≤ t := hf.1
  have hmx : readyOf f P i (P i).n ≤ maxZ (readyOf f P i (P i).n) last ∧ last ≤ maxZ (readyOf f P i (P i).n) last := by unfold maxZ; split <;> omega
  have hfull : (thereAll f P (stOf f P i) t np : Int) < g (stOf f P i).toNat := by
    have := hf.2.1; unfold fullAt at this; omega
  have hnow : ((nowAll f P (stOf f P i) t np : Nat) : Int) + 1 ≤ g (stOf f P i).toNat := by
    have := nowAll_le f P (stOf f P i) t np; omega
  refine ⟨fun j hj m hm => ?_, fun a ha k hka j hj m hm hne htr => ?_, fun j hj m hm => ?_⟩
  · rcases moreP_legs hm with h1 | ⟨rfl, rfl⟩
    · rw [readyOf_more (by omega), moreP_old h1]; exact h.ready j hj m h1
    · rw [readyOf_more (Nat.le_refl _), moreP_new]; omega
  · rcases moreP_legs hka with h1 | ⟨rfl, rfl⟩
    · rcases moreP_legs hm with h2 | ⟨rfl, rfl⟩
      · rw [freeH_old h1, freeH_old h2, moreP_old h1, moreP_old h2]; exact h.track a ha k h1 j hj m h2 hne htr
      · rw [freeH_old h1, moreP_new]
        have := l2 a ha k h1 hne htr
        exact Or.inr (by omega)
    · rcases moreP_legs hm with h2 | ⟨rfl, rfl⟩
      · rw [freeH_old h2, moreP_new]
        have := l2 j hj m h2 (fun e => hne e.symm) htr.symm
        exact Or.inl (by omega)
      · exact absurd rfl hne
  · rcases moreP_legs hm with h1 | ⟨rfl, rfl⟩
    · have hl := (hQ.at0 j hj m h1).2
      have hr := h.room j hj m h1
      rw [moreP_old h1, nowAll_more hk (by omega)]
      by_cases hb : i < np ∧ nowB f (moreP P i t) ((f j).leg m).to ((P j).s m) i (P i).n = true
      · rw [if_pos hb]
        have hst : stOf f P i = ((f j).leg m).to ∧ t ≤ (P j).s m := by
          refine ⟨Classical.byContradiction fun e => ?_, Int.not_lt.1 fun e => ?_⟩
          · rw [nowB_new (Or.inr e)] at hb; exact absurd hb.2 (by decide)
          · rw [nowB_new (Or.inl e)] at hb; exact absurd hb.2 (by decide)
        have ht : (P j).s m = t := by omega
        rw [← hst.1, ht]
        omega
      · rw [if_neg hb]; exact hr
    · rw [moreP_new, nowAll_more hk (Int.le_refl _)]
      show ((nowAll f P (stOf f P j) t np + _ : Nat) : Int) ≤ g (stOf f P j).toNat
      split <;> omega
theorem leavesOf_ge {len np : Nat} {g : Nat → Int} {gap : Int} {f : Nat → TrainD} {P : Nat → RowD} (hR : RightL len np f) (h : NoC np g gap f P) (hn : ∀ j, j < np → (P j).n = (f j).nl) {i k : Nat} (hi : i < np) (hk : k < (f i).nl) : (P i).s k ≤ leavesOf f P i k := by
  have hl := (hR.train i hi).leg k hk
  unfold leavesOf
  split
  · rename_i e
    have h1 := h.ready i hi (k + 1) e
    have h2 := (hR.train i hi).leg (k + 1) (by rw [← hn i hi]; exact e)
    simp only [readyOf] at h1
    omega
  · omega
theorem count_le {len np : Nat} {g : Nat → Int} {gap : Int} {f : Nat → TrainD} {P : Nat → RowD} (hR : RightL len np f) (h : NoC np g gap f P) (hn : ∀ j, j < np → (P j).n = (f j).nl) {i k : Nat} (hi : i < np) (hk : k < (f i).nl) {j : Nat} (hj : j < np) : ∀ m, m ≤ (f j).nl → countRow f P i k j m ≤ nowRow f P ((f i).leg k).to ((P i).s k) j m
  | 0, _ => Nat.le_refl _
  | m + 1, hm => by
    have h0 := count_le hR h hn hi hk hj m (by omega)
    simp only [countRow, nowRow]
    by_cases hs : skipB f P i k j m = true
    · rw [if_pos hs]; omega
    · have hb : nowB f P ((f i).leg k).to ((P i).s k) j m = true := by
        unfold skipB at hs
        rw [decide_eq_true_eq] at hs
        have hto : ((f j).leg m).to = ((f i).leg k).to := Classical.byContradiction fun e => hs (Or.inl e)
        have hle : (P j).s m ≤ (P i).s k := Int.not_lt.1 fun e => hs (Or.inr (Or.inl e))
        have hlv : (P i).s k ≤ leavesOf f P j m := by
          refine Int.not_lt.1 fun e => ?_
          by_cases hjm : j = i ∧ m = k
          · obtain ⟨rfl, rfl⟩ := hjm
            have := leavesOf_ge hR h hn hi hk
            omega
          · exact hs (Or.inr (Or.inr (Or.inr ⟨e, by by_cases hji : j = i; exact Or.inr (fun e2 => hjm ⟨hji, e2⟩); exact Or.inl hji⟩)))
        have hlo : leaveO f P j m = some (leavesOf f P j m) := by
          unfold leaveO leavesOf
          by_cases e : m + 1 < (P j).n
          · rw [if_pos e, if_pos e]
          · rw [if_neg e, if_neg e, if_neg (by rw [← hn j hj]; exact e)]
        unfold nowB hereB
        rw [hlo]
        simp [hto, hle, hlv]
      rw [if_neg hs, if_pos hb]; omega
theorem countAll_now {len np : Nat} {g : Nat → Int} {gap : Int} {f : Nat → TrainD} {P : Nat → RowD} (hR : RightL len np f) (h : NoC np g gap f P) (hn : ∀ j, j < np → (P j).n = (f j).nl) {i k : Nat} (hi : i < np) (hk : k < (f i).nl) : ∀ n, n ≤ np → countAll f P i k n ≤ nowAll f P ((f i).leg k).to ((P i).s k) n
  | 0, _ => Nat.le_refl _
  | n + 1, hle => by
    have h0 := countAll_now hR h hn hi hk n (by omega)
    have h1 := count_le hR h hn hi hk (show n < np by omega) (f n).nl (Nat.le_refl _)
    simp only [countAll, nowAll]
    rw [hn n (by omega)]
    omega
/-- a plan, whole, of legs none of which clashes, can be -/
theorem NoC.clash {len np : Nat} {g : Nat → Int} {gap last : Int} {f : Nat → TrainD} {P : Nat → RowD} (hF : faultOf len g gap np f = (0, 0)) (h : NoC np g gap f P) (hQ : PartP np f P last) (hn : ∀ j, j < np → (P j).n = (f j).nl) : clashOf len g gap np f np P = (0, 0, 0, 0) := by
  have hR := rightL_of hF
  have hG := rightG_of hF
  have hS : shapeB np f np P = true := by
    unfold shapeB
    rw [decide_eq_true_eq]
    refine ⟨rfl, fun i hi => ⟨hn i hi, fun k hk => ?_⟩⟩
    have h1 := hQ.at0 i hi k hk
    have h2 := hQ.l1
    unfold inB
    rw [decide_eq_true_eq]
    omega
  refine clashOf_zero hF hS (fun j hj m hm => h.ready j hj m (by rw [hn j hj]; exact hm)) (fun i hi k hk => withOf_none (fun j hj m hm => ?_)) (fun i hi k hk => ?_)
  · unfold onB
    rw [decide_eq_false_iff_not]
    rintro ⟨hne, htr, h1, _, h3⟩
    have hrun := (hR.train i hi).leg k hk
    have hg := hG.g0
    rcases h.track i hi k (by rw [hn i hi]; exact hk) j hj m (by rw [hn j hj]; exact hm) hne htr with e | e
    · unfold freeH at e; omega
    · unfold freeH at e; omega
  · unfold fullB
    rw [decide_eq_false_iff_not]
    have h1 := h.room i hi k (by rw [hn i hi]; exact hk)
    have h2 := countAll_now hR h hn hi hk np (Nat.le_refl _)
    omega
end Go.Proofs.YtelickcfodcmaaaGreatDoor

namespace Go.Proofs.YtelickcfodcmaaaGreatDoor
open Go.RowKit

theorem fault_parts {nt : Nat} {g : Nat → Int} {gap : Int} {ntr : Nat} {f : Nat → TrainD} (h : faultOf nt g gap ntr f = (0, 0)) : (inB nt 2 12 = true ∧ inB gap 0 10000 = true ∧ ntr ≤ 5 ∧ legSum f ntr ≤ 10) ∧ (∀ j, j < nt → inB (g j) 1 10 = true) ∧ ∀ j, j < ntr → trainB nt (f j) = true := by
  unfold faultOf at h
  split at h
  · rename_i hok
    cases h1 : firstBad (fun i => inB (g i) 1 10) nt with
    | some i => rw [h1] at h; simp at h
    | none =>
      rw [h1] at h
      cases h2 : firstBad (fun i => trainB nt (f i)) ntr with
      | some i => rw [h2] at h; simp at h
      | none => exact ⟨hok, firstBad_all h1, firstBad_all h2⟩
  · simp at h
section
variable {nt np : Nat} {g : Nat → Int} {gap : Int} {f : Nat → TrainD}
/-- the line with its first train alone -/
theorem fault_first (h : faultOf nt g gap np f = (0, 0)) (hn : 0 < np) : faultOf nt g gap 1 f = (0, 0) := by
  obtain ⟨⟨h1, h2, _, h4⟩, h5, h6⟩ := fault_parts h
  refine faultOf_zero ⟨h1, h2, by omega, ?_⟩ h5 (fun j hj => h6 j (by omega))
  have := legSum_part (f := f) hn
  simp only [legSum]; omega
theorem next_ne (h : faultOf nt g gap np f = (0, 0)) {j k : Nat} (hj : j < np) (hk : k + 1 < (f j).nl) : ((f j).leg k).to ≠ ((f j).leg (k + 1)).to := by
  have h6 := (fault_parts h).2.2 j hj
  unfold trainB at h6
  simp only [Bool.and_eq_true] at h6
  have hl := (of_decide_eq_true h6.2) (k + 1) hk
  unfold legB at hl
  simp only [Bool.and_eq_true] at hl
  have := of_decide_eq_true hl.1.1.2
  simp only [cur] at this
  omega
/-- when a train that is alone begins its legs -/
def lonS (t : TrainD) (k : Nat) : Int := t.ready + ticks t k + (t.leg k).stay
def lonP (f : Nat → TrainD) : Nat → RowD := fun i => ⟨(f i).nl, lonS (f i)⟩
theorem lonS_succ (t : TrainD) (k : Nat) : lonS t (k + 1) = lonS t k + (t.leg k).run + (t.leg (k + 1)).stay := by simp only [lonS, ticks]; omega
theorem lonS_end {t : TrainD} (h : 0 < t.nl) : lonS t (t.nl - 1) + (t.leg (t.nl - 1)).run = endOf t := by
  obtain ⟨k, hk⟩ : ∃ k, t.nl = k + 1 := ⟨t.nl - 1, by omega⟩
  unfold lonS endOf
  rw [hk, Nat.add_sub_cancel, ticks]; omega
theorem lonS_bd {t : TrainD} (h : RightT t) {k : Nat} (hk : k < t.nl) : 0 ≤ lonS t k ∧ lonS t k ≤ 310000 := by
  have h1 := ticks_bd h k (by omega)
  have h2 := h.leg k hk
  have h3 := h.r0
  have h4 := h.r1
  have h5 := h.nl
  unfold lonS; omega
theorem lonS_asc {t : TrainD} (h : RightT t) {k : Nat} : ∀ d, k + 1 + d < t.nl → lonS t k < lonS t (k + 1 + d)
  | 0, hd => by
    have h1 := h.leg k (by omega)
    have h2 := h.leg (k + 1) (by omega)
    rw [Nat.add_zero, lonS_succ]; omega
  | d + 1, hd => by
    have h0 := lonS_asc h (k := k) d (by omega)
    have h1 := h.leg (k + 1 + d) (by omega)
    have h2 := h.leg (k + 1 + (d + 1)) (by omega)
    rw [show k + 1 + (d + 1) = k + 1 + d + 1 from rfl, lonS_succ, show k + 1 + d + 1 = k + 1 + (d + 1) from rfl]; omega
theorem lon_skip (h : faultOf nt g gap 1 f = (0, 0)) {k m : Nat} (hk : k < (f 0).nl) (hm : m < (f 0).nl) (hne : m ≠ k) : skipB f (lonP f) 0 k 0 m = true := by
  have hR := (rightL_of h).train 0 (by omega)
  unfold skipB
  rw [decide_eq_true_eq]
  show _ ∨ lonS (f 0) k < lonS (f 0) m ∨ _ ∨ (leavesOf f (lonP f) 0 m < lonS (f 0) k ∧ _)
  rcases Nat.lt_or_gt_of_ne hne with e | e
  · by_cases e2 : m + 1 = k
    · subst e2
      exact Or.inl (next_ne h (j := 0) (by omega) hk)
    · obtain ⟨d, rfl⟩ : ∃ d, k = m + 1 + 1 + d := ⟨k - (m + 1 + 1), by omega⟩
      refine Or.inr (Or.inr (Or.inr ⟨?_, Or.inr hne⟩))
      unfold leavesOf
      rw [if_pos (show m + 1 < (lonP f 0).n from (by show m + 1 < (f 0).nl; omega))]
      exact lonS_asc hR d hk
  · obtain ⟨d, rfl⟩ : ∃ d, m = k + 1 + d := ⟨m - (k + 1), by omega⟩
    exact Or.inr (Or.inl (lonS_asc hR d hm))
theorem lon_count (h : faultOf nt g gap 1 f = (0, 0)) {k : Nat} (hk : k < (f 0).nl) : ∀ n, n ≤ (f 0).nl → countRow f (lonP f) 0 k 0 n ≤ (if k < n then 1 else 0)
  | 0, _ => Nat.zero_le _
  | n + 1, hn => by
    have h0 := lon_count h hk n (by omega)
    simp only [countRow]
    by_cases e : n = k
    · subst e
      rw [if_neg (Nat.lt_irrefl _)] at h0
      rw [if_pos (Nat.lt_succ_self _)]
      split <;> omega
    · rw [if_pos (lon_skip h hk (by omega) e)]
      have : (k < n + 1) = (k < n) := by simp only [eq_iff_iff]; omega
      simp only [this]; exact h0
theorem lon_clash (h : faultOf nt g gap 1 f = (0, 0)) : clashOf nt g gap 1 f 1 (lonP f) = (0, 0, 0, 0) := by
  have hR := (rightL_of h).train 0 (by omega)
  have hS : shapeB 1 f 1 (lonP f) = true := by
    unfold shapeB
    rw [decide_eq_true_eq]
    refine ⟨rfl, fun i hi => ⟨rfl, fun k hk => ?_⟩⟩
    obtain rfl : i = 0 := by omega
    have := lonS_bd hR (k := k) hk
    unfold inB
    rw [decide_eq_true_eq]
    show 0 ≤ lonS (f 0) k ∧ lonS (f 0) k ≤ 1000000
    omega
  refine clashOf_zero h hS (fun j hj m hm => ?_) (fun i hi k hk => withOf_none (fun j hj m hm => ?_)) (fun i hi k hk => ?_)
  · obtain rfl : j = 0 := by omega
    cases m with
    | zero => show (f 0).ready + ((f 0).leg 0).stay ≤ lonS (f 0) 0; simp only [lonS, ticks]; omega
    | succ m => show lonS (f 0) m + ((f 0).leg m).run + ((f 0).leg (m + 1)).stay ≤ lonS (f 0) (m + 1); rw [lonS_succ]; omega
  · unfold onB
    rw [decide_eq_false_iff_not]
    rintro ⟨hne, _⟩
    omega
  · obtain rfl : i = 0 := by omega
    unfold fullB
    rw [decide_eq_false_iff_not]
    have h1 := lon_count h hk (f 0).nl (Nat.le_refl _)
    rw [if_pos hk] at h1
    have h2 := (rightL_of h).to 0 (by omega) k hk
    have h3 := ((rightG_of h).room ((f 0).leg k).to.toNat (by omega)).1
    show ¬ (_ < ((countAll f (lonP f) 0 k 0 + countRow f (lonP f) 0 k 0 (f 0).nl : Nat) : Int))
    simp only [countAll]; omega
theorem lon_meets (h : faultOf nt g gap 1 f = (0, 0)) : meetsOf nt g gap 1 f 1 (lonP f) = [] := by
  unfold meetsOf
  rw [if_pos (lon_clash h)]
  rfl
theorem lon_arrives (h : faultOf nt g gap 1 f = (0, 0)) : arrivesOf nt g gap 1 f 1 (lonP f) 0 = endOf (f 0) := by
  obtain ⟨h1, h2⟩ := clashOf_ok (lon_clash h)
  unfold arrivesOf
  rw [if_pos ⟨h1, h2, rfl⟩]
  exact lonS_end ((rightL_of h).pos 0 (by omega))
/-- a meeting is of two trains, the lesser first, and lasts no less than nothing -/
def GoodM (m : MeetD) : Prop := m.a < m.b ∧ m.frm ≤ m.to
theorem meetOf_good {i j : Nat} (hij : i < j) (x y : StandD) : ∀ m ∈ meetOf i j x y, GoodM m := by
  intro m hm
  unfold meetOf at hm
  split at hm
  · rename_i hc
    obtain rfl := List.mem_singleton.1 hm
    exact ⟨by show (i : Int) < (j : Int); omega, hc.2⟩
  · cases hm
theorem rowM_good {P : Nat → RowD} {i j k : Nat} (hij : i < j) : ∀ n, ∀ m ∈ rowM f P i j k n, GoodM m
  | 0, _, hm => by cases hm
  | n + 1, m, hm => by
    rcases List.mem_append.1 hm with h | h
    · exact rowM_good hij n m h
    · exact meetOf_good hij _ _ m h
theorem pairM_good {P : Nat → RowD} {i j : Nat} (hij : i < j) : ∀ n, ∀ m ∈ pairM f P i j n, GoodM m
  | 0, _, hm => by cases hm
  | n + 1, m, hm => by
    rcases List.mem_append.1 hm with h | h
    · exact pairM_good hij n m h
    · exact rowM_good hij _ m h
theorem manyM_good {P : Nat → RowD} {i : Nat} : ∀ n, ∀ m ∈ manyM f P i n, GoodM m
  | 0, _, hm => by cases hm
  | n + 1, m, hm => by
    rcases List.mem_append.1 hm with h | h
    · exact manyM_good n m h
    · exact pairM_good (by omega) _ m h
theorem allM_good {P : Nat → RowD} {q : Nat} : ∀ n, ∀ m ∈ allM f P q n, GoodM m
  | 0, _, hm => by cases hm
  | n + 1, m, hm => by
    rcases List.mem_append.1 hm with h | h
    · exact allM_good n m h
    · exact manyM_good _ m h
theorem meets_good {P : Nat → RowD} {q : Nat} : ∀ m ∈ meetsOf nt g gap np f q P, GoodM m := by
  intro m hm
  unfold meetsOf at hm
  split at hm
  · exact allM_good _ m hm
  · cases hm
end
end Go.Proofs.YtelickcfodcmaaaGreatDoor

namespace Go.Proofs.YtelickcfodcmaaaGreatDoor
open Go.RowKit

def soonC (f : Nat → TrainD) (P : Nat → RowD) (i k : Nat) : Int × Int × Int × Int := if (P i).s k < readyOf f P i k then (2, (i : Int), (k : Int), 0) else (0, 0, 0, 0)
def takenC (gap : Int) (np : Nat) (f : Nat → TrainD) (P : Nat → RowD) (i k : Nat) : Int × Int × Int × Int :=
  match (listT gap np f P (trackOf (f i) k)).find? (hitB i ((P i).s k)) with
  | some h => (3, (i : Int), (k : Int), (h.tr : Int))
  | none => (0, 0, 0, 0)
def fullC (g : Nat → Int) (np : Nat) (f : Nat → TrainD) (P : Nat → RowD) (i k : Nat) : Int × Int × Int × Int :=
  if g ((f i).leg k).to.toNat < ((listS np f P ((f i).leg k).to).countP (metB i ((P i).s k)) : Int) then (4, (i : Int), (k : Int), 0) else (0, 0, 0, 0)
def clashV (v : Int × Int × Int × Int) : Value := .agg #[.int .i64 v.1, .int .i64 v.2.1, .int .i64 v.2.2.1, .int .i64 v.2.2.2]
theorem readyR_eq (f : Nat → TrainD) (P : Nat → RowD) (i k : Nat) : readyR (f i) (P i).s k = readyOf f P i k := by cases k <;> rfl

/-- what a look knows of its own two blocks: the holders' box, the answer's four places -/
structure LookBox (w W : World) (a : Option Addr) (len cap : Nat) (a' : Option Addr) (np cap' : Nat) (c : Option Addr) (nc bT bS : Nat) : Prop where
  h0 : W.cell? ⟨w.heap.size, 0, none⟩ = some (.slice a' np cap')
  h1 : W.cell? ⟨w.heap.size, 1, none⟩ = some (.slice c np nc)
  h2 : W.cell? ⟨w.heap.size, 2, none⟩ = some (.slice a len cap)
  h3 : W.cell? ⟨w.heap.size, 3, none⟩ = some (.map (some bT))
  h4 : W.cell? ⟨w.heap.size, 4, none⟩ = some (.map (some bS))
  r0 : W.cell? ⟨w.heap.size + 1, 0, none⟩ = some (.int .i64 0)
  r1 : W.cell? ⟨w.heap.size + 1, 1, none⟩ = some (.int .i64 0)
  r2 : W.cell? ⟨w.heap.size + 1, 2, none⟩ = some (.int .i64 0)
  r3 : W.cell? ⟨w.heap.size + 1, 3, none⟩ = some (.int .i64 0)
  z0 : W.frozen? ⟨w.heap.size + 1, 0, none⟩ = false
  z1 : W.frozen? ⟨w.heap.size + 1, 1, none⟩ = false
  z2 : W.frozen? ⟨w.heap.size + 1, 2, none⟩ = false
  z3 : W.frozen? ⟨w.heap.size + 1, 3, none⟩ = false
theorem LookBox.later {w W W' : World} {a : Option Addr} {len cap : Nat} {a' : Option Addr} {np cap' : Nat} {c : Option Addr} {nc bT bS : Nat} (h : LookBox w W a len cap a' np cap' c nc bT bS) (hb : Below W.heap.size W W') : LookBox w W' a len cap a' np cap' c nc bT bS :=
  ⟨cellLater hb h.h0, cellLater hb h.h1, cellLater hb h.h2, cellLater hb h.h3, cellLater hb h.h4, cellLater hb h.r0, cellLater hb h.r1, cellLater hb h.r2, cellLater hb h.r3, frozenLater hb h.r0 h.z0, frozenLater hb h.r1 h.z1, frozenLater hb h.r2 h.z2, frozenLater hb h.r3 h.z3⟩
theorem LookBox.new (w : World) (a : Option Addr) (len cap : Nat) (a' : Option Addr) (np cap' : Nat) (c : Option Addr) (nc bT bS : Nat) (t t' : TypeId) :
    LookBox w ((w.alloc (.cells #[.slice a' np cap', .slice c np nc, .slice a len cap, .map (some bT), .map (some bS)] t)).alloc (.cells #[.int .i64 0, .int .i64 0, .int .i64 0, .int .i64 0] t')) a len cap a' np cap' c nc bT bS := by
  obtain ⟨⟨y0, y1, y2, y3, y4⟩, _⟩ := box5 (Go.heap_alloc_new w (.cells #[.slice a' np cap', .slice c np nc, .slice a len cap, .map (some bT), .map (some bS)] t))
  refine ⟨cellLater (b1 _ _) y0, cellLater (b1 _ _) y1, cellLater (b1 _ _) y2, cellLater (b1 _ _) y3, cellLater (b1 _ _) y4, ?_, ?_, ?_, ?_, ?_, ?_, ?_, ?_⟩
  · rw [World.cell?_alloc_at _ _ _ _ (by simp)]; rfl
  · rw [World.cell?_alloc_at _ _ _ _ (by simp)]; rfl
  · rw [World.cell?_alloc_at _ _ _ _ (by simp)]; rfl
  · rw [World.cell?_alloc_at _ _ _ _ (by simp)]; rfl
  · rw [World.frozen?_alloc_at _ _ _ _ (by simp)]
  · rw [World.frozen?_alloc_at _ _ _ _ (by simp)]
  · rw [World.frozen?_alloc_at _ _ _ _ (by simp)]
  · rw [World.frozen?_alloc_at _ _ _ _ (by simp)]

set_option maxRecDepth 20000 in
set_option maxHeartbeats 4000000 in
theorem tooSoon_any (a : Option Addr) (len cap : Nat) (a' : Option Addr) (np cap' : Nat) (f : Nat → TrainD) (c : Option Addr) (nc bT bS : Nat) (P : Nat → RowD) (i k : Nat) (w : World)
    (hR : RightL len np f) (hQ : RightP np f np P) (hi : i < np) (hk : k < (f i).nl) (hT : IsTrains 0 w.heap.size w a' np f) (hP : IsRows 0 w.heap.size w c np P) (hC : Caps w c np) :
    Calls Tryz.prog 26 #[.agg #[.slice a' np cap', .slice c np nc, .slice a len cap, .map (some bT), .map (some bS)], .int .i64 i, .int .i64 k] w fun e w' => e = .returned (clashV (soonC f P i k)) ∧ Below w.heap.size w w' := by
  have hX := LookBox.new w a len cap a' np cap' c nc bT bS 62 33
  have hN := b2 w (.cells #[.slice a' np cap', .slice c np nc, .slice a len cap, .map (some bT), .map (some bS)] 62) (.cells #[.int .i64 0, .int .i64 0, .int .i64 0, .int .i64 0] 33)
  have htr := hR.tr
  have hRi := hR.train i hi
  have hnl := hRi.nl
  have hi' : (i : Int) < (np : Int) := by omega
  have hi0 : (0 : Int) ≤ (i : Int) := by omega
  have hk' : (k : Int) < ((f i).nl : Int) := by omega
  have hk0 : (0 : Int) ≤ (k : Int) := by omega
  obtain ⟨b, off, la, lc, rfl, _, hb, t0, t1, t2, t3, t4, hlg, _⟩ := hT i hi
  obtain ⟨bp, op, lp, lpc, rfl, _, hbp, p0, hin, _⟩ := hP i hi
  rw [hQ.row i hi] at p0 hin
  have hcap := hC.at hi p0
  have hkc : (k : Int) ≤ (lpc : Int) := by omega
  obtain ⟨bi, oi, rfl, _, hbi, q0⟩ := hin k hk
  have hin1 : IsInts 0 w.heap.size w (some ⟨bi, oi, none⟩) k (P i).s := fun j hj => hin j (by omega)
  replace t0 := cellLater hN t0
  replace t1 := cellLater hN t1
  replace t2 := cellLater hN t2
  replace t3 := cellLater hN t3
  replace t4 := cellLater hN t4
  replace p0 := cellLater hN p0
  replace q0 := cellLater hN q0
  replace hlg := hlg.grow hN.drew
  replace hin1 := hin1.grow hN.drew
  have y0 := hX.h0
  have y1 := hX.h1
  go_enter Tryz.func26, Tryz.ntmps26
  go_wp2
  refine nameW fun W hW => ?_
  rw [← hW] at hX hN t0 t1 t2 t3 t4 p0 q0 hlg hin1 y0 y1
  clear hW
  go_region_held3 (fun w' => w'.cell? ⟨w.heap.size, 0, none⟩ = some (.slice (some ⟨b, off, none⟩) np cap') ∧ w'.cell? ⟨b, off + i * 5, none⟩ = some (.int .i64 (f i).frm) ∧ w'.cell? ⟨b, off + i * 5 + 1, none⟩ = some (.int .i64 (f i).ready) ∧ w'.cell? ⟨b, off + i * 5 + 2, none⟩ = some (.int .i64 (f i).due) ∧ w'.cell? ⟨b, off + i * 5 + 3, none⟩ = some (.int .i64 (f i).weight) ∧ w'.cell? ⟨b, off + i * 5 + 4, none⟩ = some (.slice la (f i).nl lc) ∧ w'.cell? ⟨bi, oi + k, none⟩ = some (.int .i64 ((P i).s k))) (first | go_keep | (go_split_ands; refine ⟨?_, ?_, ?_, ?_, ?_, ?_, ?_⟩ <;> exact cellLater hB3 (by assumption))) ((first | (go_at_call 59; refine (soonest_any (f i) (P i).s k _ _ _ _ _ hk hRi (fun j hj => hQ.at0 i hi j (by omega)) hlg hin1).mono ?_; rintro e w3 ⟨rfl, hB3⟩)))
  replace hX := hX.later (Below.join (Below.refl _ _).drew (Nat.le_refl _) hB3)
  replace hN := Below.join hN.drew (Nat.le_refl _) hB3
  have r0 := hX.r0
  have r1 := hX.r1
  have r2 := hX.r2
  have r3 := hX.r3
  have z0 := hX.z0
  have z1 := hX.z1
  have z2 := hX.z2
  have z3 := hX.z3
  by_cases hbad : (P i).s k < readyR (f i) (P i).s k
  · have e1 : soonC f P i k = (2, (i : Int), (k : Int), 0) := by unfold soonC; rw [if_pos (by rw [← readyR_eq]; exact hbad)]
    go_wp2
    refine bodyPost_ret (v := .agg #[.int .i64 2, .int .i64 i, .int .i64 k, .int .i64 0]) (by simp [results, Tryz.results26, go_sem, r0, r1, r2, r3]) rfl ⟨by first | rfl | (rw [e1]; rfl), ?_⟩
    exact below_set4 hN (by omega) _ _ _ _
  · have e1 : soonC f P i k = (0, 0, 0, 0) := by unfold soonC; rw [if_neg (by rw [← readyR_eq]; exact hbad)]
    go_wp2
    refine bodyPost_ret (v := .agg #[.int .i64 0, .int .i64 0, .int .i64 0, .int .i64 0]) (by simp [results, Tryz.results26, go_sem, r0, r1, r2, r3]) rfl ⟨by first | rfl | (rw [e1]; rfl), ?_⟩
    exact below_set4 hN (by omega) _ _ _ _
end Go.Proofs.YtelickcfodcmaaaGreatDoor

namespace Go.Proofs.YtelickcfodcmaaaGreatDoor
open Go.RowKit

theorem Tryz.zeroHold (w : World) : (zeroValue 78).run Tryz.prog w = .ok (.agg #[.int .i64 0, .int .i64 0, .int .i64 0]) w := by kernel_rfl
/-- is there a next leg of this train -/
def moreB (np : Nat) (f : Nat → TrainD) (P : Nat → RowD) (i : Int) : Bool := inB i 0 ((np : Int) - 1) && decide ((P i.toNat).n < (f i.toNat).nl)

set_option maxRecDepth 20000 in
set_option maxHeartbeats 4000000 in
theorem hasNext_any (b : Nat) (a : Option Addr) (len cap : Nat) (gap : Int) (a' : Option Addr) (np cap' : Nat) (f : Nat → TrainD) (c : Option Addr) (nc : Nat) (P : Nat → RowD) (last : Int) (i : Int) (w : World) (hR : RightL len np f)
    (hL : L2 w b a len cap gap a' np cap' c nc last) (hT : IsTrains 0 w.heap.size w a' np f) (hP : IsRows 0 w.heap.size w c np P) :
    Calls Tryz.prog 69 #[.pointer (some ⟨b, 0, none⟩), .int .i64 i] w fun e w' => e = .returned (.bool (moreB np f P i)) ∧ ∃ q, w' = w.drewN q := by
  have htr := hR.tr
  have x2 := hL.c2
  have x3 := hL.c3
  have hw1 : IntKind.i64.wrap ((np : Int) - 1) = (np : Int) - 1 := by rw [IntKind.wrap_i64]; omega
  cases hin : inB i 0 ((np : Int) - 1)
  · have e : moreB np f P i = false := by unfold moreB; rw [hin]; rfl
    rw [e]
    have hW := fun W => within_any i 0 ((np : Int) - 1) W
    simp only [hin] at hW
    go_enter Tryz.func69, Tryz.ntmps69
    go_wp2
    go_quiet ((go_at_call 52; exact Calls.quiet_of_same (hW _)))
    go_wp2
    go_ret
    exact ⟨rfl, _, rfl⟩
  · have hin' := hin
    unfold inB at hin'
    simp only [decide_eq_true_eq] at hin'
    obtain ⟨k, rfl⟩ : ∃ k : Nat, i = (k : Int) := ⟨i.toNat, by omega⟩
    have hk : k < np := by omega
    have hk' : (k : Int) < (np : Int) := by omega
    have hk0 : (0 : Int) ≤ (k : Int) := by omega
    obtain ⟨bt, ot, la, lc, rfl, _, hbt, t0, t1, t2, t3, t4, hlg, _⟩ := hT k hk
    obtain ⟨bp, op, lp, lpc, rfl, _, hbp, p0, hin2, _⟩ := hP k hk
    have e : moreB np f P (k : Int) = decide ((P k).n < (f k).nl) := by unfold moreB; rw [hin]; simp
    rw [e]
    clear hin'
    have hW := fun W => within_any (k : Int) 0 ((np : Int) - 1) W
    simp only [hin] at hW
    go_enter Tryz.func69, Tryz.ntmps69
    go_wp2
    go_quiet ((go_at_call 52; exact Calls.quiet_of_same (hW _)))
    go_wp2
    go_ret
    exact ⟨rfl, _, rfl⟩

set_option maxRecDepth 20000 in
set_option maxHeartbeats 4000000 in
theorem isWhole_any (b : Nat) (a : Option Addr) (len cap : Nat) (gap : Int) (a' : Option Addr) (np cap' : Nat) (f : Nat → TrainD) (c : Option Addr) (nc : Nat) (P : Nat → RowD) (last : Int) (w : World) (hR : RightL len np f)
    (hL : L2 w b a len cap gap a' np cap' c nc last) (hT : IsTrains 0 w.heap.size w a' np f) (hP : IsRows 0 w.heap.size w c np P) :
    Calls Tryz.prog 43 #[.pointer (some ⟨b, 0, none⟩)] w fun e w' => (∃ r, e = .returned (.bool r) ∧ (r = true ↔ ∀ j, j < np → moreB np f P (j : Int) = false)) ∧ Below w.heap.size w w' := by
  have htr := hR.tr
  have x3 := hL.c3
  go_enter Tryz.func43, Tryz.ntmps43
  go_wp2
  clear x3
  go_loopw [9] (fun kk wr => ∃ (k : Nat), k ≤ np ∧ kk = .int .i64 k ∧ (∀ j, j < k → moreB np f P (j : Int) = false) ∧ Below w.heap.size w wr) (fun kk _ => np - (intOf kk).toNat)
  case atStart => exact ⟨0, Nat.zero_le _, rfl, fun j hj => absurd hj (Nat.not_lt_zero j), Below.refl _ _⟩
  case round =>
    obtain ⟨k, hk, rfl, hall, hB⟩ := hrel
    have hall' : Hid _ := hall
    clear hall
    by_cases hlt : k < np
    · have hlt' : (k : Int) < (np : Int) := by omega
      have hN := hasNext_any b a len cap gap a' np cap' f c nc P last (k : Int) wr hR (hL.later hB) (hT.grow hB) (hP.grow hB)
      cases hm : moreB np f P (k : Int)
      · rw [hm] at hN
        have hnew : Hid (∀ j, j < k + 1 → moreB np f P (j : Int) = false) := fun j hj => by
          rcases Nat.lt_or_ge j k with h | h
          · exact hall'.out j h
          · obtain rfl : j = k := by omega
            exact hm
        go_wp2_with (go_at_call 69; refine hN.mono ?_; rintro _ w2 ⟨rfl, q2, hw2⟩; have hB2 : Below wr.heap.size wr w2 := (by rw [hw2]; exact below_drewN (Below.refl _ _) _); clear hw2)
        go_roundw
        case rel => exact ⟨k + 1, by omega, by go_num, hnew.out, Below.join hB (Nat.le_refl _) hB2⟩
        case measure => simp [intOf]; omega
      · rw [hm] at hN
        go_wp2_with (go_at_call 69; refine hN.mono ?_; rintro _ w2 ⟨rfl, q2, hw2⟩; have hB2 : Below wr.heap.size wr w2 := (by rw [hw2]; exact below_drewN (Below.refl _ _) _); clear hw2)
        go_ret
        exact ⟨⟨false, rfl, fun h => (by cases h), fun h => (by rw [h k hlt] at hm; cases hm)⟩, Below.join hB (Nat.le_refl _) hB2⟩
    · obtain rfl : k = np := by omega
      go_wp2
      go_ret
      exact ⟨⟨true, rfl, fun _ => hall'.out, fun _ => rfl⟩, hB⟩

set_option maxRecDepth 20000 in
set_option maxHeartbeats 4000000 in
theorem trackFree_any (b bT n : Nat) (m : Int → Value) (i : Nat) (k : Int) (tr fr fe : Int) (w : World) (hk : (Lit.int .i64 k).wf = true)
    (h5 : w.cell? ⟨b, 5, none⟩ = some (.map (some bT))) (hM : KV 3 w bT n (.agg #[.int .i64 0, .int .i64 0, .int .i64 0]) m) (hv : m k = .agg #[.int .i64 tr, .int .i64 fr, .int .i64 fe]) :
    Calls Tryz.prog 70 #[.pointer (some ⟨b, 0, none⟩), .int .i64 i, .int .i64 k] w fun e w' => e = .returned (.int .i64 (if tr = (i : Int) then 0 else fe)) ∧ Below w.heap.size w w' := by
  have hlk := hM.lookup Tryz.underlying3 Tryz.underlying87 (Tryz.zeroHold _) hk
  rw [hv] at hlk
  by_cases he : tr = (i : Int)
  · rw [if_pos he]
    have hed : (tr == (i : Int)) = true := by simp [he]
    clear he
    go_enter Tryz.func70, Tryz.ntmps70
    go_wp2
    go_ret
    exact ⟨rfl, by first | exact b1 _ _ | exact Below.refl _ _⟩
  · rw [if_neg he]
    have hed : (tr == (i : Int)) = false := by simp [he]
    clear he
    go_enter Tryz.func70, Tryz.ntmps70
    go_wp2
    go_ret
    exact ⟨rfl, by first | exact b1 _ _ | exact Below.refl _ _⟩
end Go.Proofs.YtelickcfodcmaaaGreatDoor

namespace Go.Proofs.YtelickcfodcmaaaGreatDoor

/-- the values of a row's first n places -/
def elems (s : Nat → Int) (n : Nat) : List Int := (List.range n).map s
def swapF (s : Nat → Int) (i j : Nat) : Nat → Int := fun k => if k = j then s i else if k = i then s j else s k
theorem elems_swap (s : Nat → Int) {i j n : Nat} (hi : i < n) (hj : j < n) : (elems (swapF s i j) n).Perm (elems s n) := by
  have h1 : elems (swapF s i j) n = ((List.range n).map fun k => if k = j then i else if k = i then j else k).map s := by
    unfold elems
    rw [List.map_map]
    apply List.map_congr_left
    intro k _
    simp only [Function.comp, swapF]
    split
    · rfl
    · split <;> rfl
  rw [h1]
  unfold elems
  apply List.Perm.map
  have nd : ((List.range n).map fun k => if k = j then i else if k = i then j else k).Nodup := by
    rw [List.nodup_iff_pairwise_ne, List.pairwise_map]
    refine List.Pairwise.imp_of_mem ?_ (List.nodup_iff_pairwise_ne.1 List.nodup_range)
    intro a b _ _ hab
    split <;> split <;> (try split) <;> (try split) <;> omega
  rw [List.perm_ext_iff_of_nodup nd List.nodup_range]
  intro a
  simp only [List.mem_map, List.mem_range]
  constructor
  · rintro ⟨k, hk, rfl⟩
    split
    · exact hi
    · split
      · exact hj
      · exact hk
  · intro ha
    by_cases e1 : a = i
    · subst e1; exact ⟨j, hj, by simp⟩
    · by_cases e2 : a = j
      · subst e2
        exact ⟨i, hi, by by_cases e : i = a <;> simp [e]⟩
      · exact ⟨a, ha, by simp [e1, e2]⟩
def IsHeap (s : Nat → Int) (n : Nat) : Prop := ∀ k, 0 < k → k < n → s ((k - 1) / 2) ≤ s k
theorem IsHeap.least {s : Nat → Int} {n : Nat} (h : IsHeap s n) : ∀ k, k < n → s 0 ≤ s k := by
  intro k
  induction k using Nat.strongRecOn with
  | _ k ih =>
    intro hk
    rcases Nat.eq_zero_or_pos k with e | e
    · subst e; exact Int.le_refl _
    · exact Int.le_trans (ih ((k - 1) / 2) (by omega) (by omega)) (h k e hk)
/-- all in order but for i, which may be too small for where it is -/
structure UpHeap (s : Nat → Int) (n i : Nat) : Prop where
  rest : ∀ k, 0 < k → k < n → k ≠ i → s ((k - 1) / 2) ≤ s k
  skip : ∀ k, 0 < k → k < n → (k - 1) / 2 = i → 0 < i → s ((i - 1) / 2) ≤ s k
theorem UpHeap.done {s : Nat → Int} {n i : Nat} (h : UpHeap s n i) (hd : i = 0 ∨ s ((i - 1) / 2) ≤ s i) : IsHeap s n := by
  intro k h0 hk
  by_cases e : k = i
  · subst e
    rcases hd with hd | hd
    · omega
    · exact hd
  · exact h.rest k h0 hk e
theorem UpHeap.step {s : Nat → Int} {n i : Nat} (h : UpHeap s n i) (hi : i < n) (h0 : 0 < i) (hlt : s i < s ((i - 1) / 2)) : UpHeap (swapF s i ((i - 1) / 2)) n ((i - 1) / 2) := by
  have hp : (i - 1) / 2 < i := by omega
  refine ⟨fun k hk0 hk hne => ?_, fun k hk0 hk he hp0 => ?_⟩
  · simp only [swapF]
    by_cases e1 : k = i
    · subst e1
      rw [if_pos rfl, if_neg (by omega), if_pos rfl]
      omega
    · by_cases e2 : (k - 1) / 2 = (i - 1) / 2
      · rw [if_pos e2, if_neg (by omega), if_neg e1]
        have := h.rest k hk0 hk e1
        rw [e2] at this
        omega
      · by_cases e3 : (k - 1) / 2 = i
        · rw [if_neg e2, if_pos e3, if_neg hne, if_neg e1]
          exact h.skip k hk0 hk e3 h0
        · rw [if_neg e2, if_neg e3, if_neg hne, if_neg e1]
          exact h.rest k hk0 hk e1
  · simp only [swapF]
    have hpp := h.rest ((i - 1) / 2) hp0 (by omega) (by omega)
    rw [if_neg (by omega), if_neg (by omega)]
    by_cases e1 : k = i
    · subst e1
      rw [if_neg (by omega), if_pos rfl]
      exact hpp
    · rw [if_neg (by omega), if_neg e1]
      have := h.rest k hk0 hk e1
      rw [he] at this
      omega
/-- all in order but that i may be too great for where it is -/
structure DownHeap (s : Nat → Int) (n i : Nat) : Prop where
  rest : ∀ k, 0 < k → k < n → (k - 1) / 2 ≠ i → s ((k - 1) / 2) ≤ s k
  skip : ∀ k, 0 < k → k < n → (k - 1) / 2 = i → 0 < i → s ((i - 1) / 2) ≤ s k
theorem DownHeap.done {s : Nat → Int} {n i : Nat} (h : DownHeap s n i) (hd : ∀ k, 0 < k → k < n → (k - 1) / 2 = i → s i ≤ s k) : IsHeap s n := by
  intro k h0 hk
  by_cases e : (k - 1) / 2 = i
  · rw [e]; exact hd k h0 hk e
  · exact h.rest k h0 hk e
theorem DownHeap.step {s : Nat → Int} {n i c : Nat} (h : DownHeap s n i) (hc0 : 0 < c) (hcn : c < n) (hci : (c - 1) / 2 = i) (hlt : s c < s i) (hmin : ∀ k, 0 < k → k < n → (k - 1) / 2 = i → s c ≤ s k) : DownHeap (swapF s i c) n c := by
  have hic : i < c := by omega
  refine ⟨fun k hk0 hk hne => ?_, fun k hk0 hk he _ => ?_⟩
  · simp only [swapF]
    by_cases e1 : (k - 1) / 2 = i
    · rw [if_neg (by omega), if_pos e1]
      by_cases e2 : k = c
      · rw [if_pos e2]; omega
      · rw [if_neg e2, if_neg (by omega)]
        exact hmin k hk0 hk e1
    · rw [if_neg hne, if_neg e1]
      by_cases e2 : k = c
      · subst e2; exact absurd hci e1
      · rw [if_neg e2]
        by_cases e3 : k = i
        · subst e3
          rw [if_pos rfl]
          exact h.skip c hc0 hcn hci hk0
        · rw [if_neg e3]
          exact h.rest k hk0 hk e1
  · simp only [swapF]
    rw [if_neg (by omega), if_pos hci, if_neg (by omega), if_neg (by omega)]
    have := h.rest k hk0 hk (by omega)
    rw [he] at this
    exact this
/-- the least of a place and the first d below it -/
def lessAt (s : Nat → Int) (n i : Nat) : Nat → Nat
  | 0 => i
  | d + 1 => if 2 * i + 1 + d < n ∧ s (2 * i + 1 + d) < s (lessAt s n i d) then 2 * i + 1 + d else lessAt s n i d
theorem lessAt_lt {s : Nat → Int} {n i : Nat} (hi : i < n) : ∀ d, lessAt s n i d < n
  | 0 => hi
  | d + 1 => by simp only [lessAt]; split <;> rename_i h; (· exact h.1); (· exact lessAt_lt hi d)
theorem lessAt_is (s : Nat → Int) (n i : Nat) (_hi : i < n) : (lessAt s n i 2 = i ∨ (0 < lessAt s n i 2 ∧ (lessAt s n i 2 - 1) / 2 = i ∧ s (lessAt s n i 2) < s i)) ∧ s (lessAt s n i 2) ≤ s i ∧ ∀ k, 0 < k → k < n → (k - 1) / 2 = i → s (lessAt s n i 2) ≤ s k := by
  have hk : ∀ k, 0 < k → (k - 1) / 2 = i → k = 2 * i + 1 ∨ k = 2 * i + 2 := fun k h1 h2 => by omega
  have e1 : ∀ a, lessAt s n i 1 = a → lessAt s n i 2 = if 2 * i + 2 < n ∧ s (2 * i + 2) < s a then 2 * i + 2 else a := fun a h => by rw [← h]; rfl
  have e0 : lessAt s n i 1 = if 2 * i + 1 < n ∧ s (2 * i + 1) < s i then 2 * i + 1 else i := rfl
  by_cases h1 : 2 * i + 1 < n ∧ s (2 * i + 1) < s i
  · rw [if_pos h1] at e0
    have e2 := e1 _ e0
    by_cases h2 : 2 * i + 2 < n ∧ s (2 * i + 2) < s (2 * i + 1)
    · rw [if_pos h2] at e2
      rw [e2]
      refine ⟨Or.inr ⟨by omega, by omega, by omega⟩, by omega, fun k a b c => ?_⟩
      rcases hk k a c with rfl | rfl
      · omega
      · exact Int.le_refl _
    · rw [if_neg h2] at e2
      rw [e2]
      refine ⟨Or.inr ⟨by omega, by omega, h1.2⟩, by omega, fun k a b c => ?_⟩
      rcases hk k a c with rfl | rfl
      · exact Int.le_refl _
      · rcases Int.lt_or_le (s (2 * i + 2)) (s (2 * i + 1)) with h3 | h3
        · exact absurd ⟨b, h3⟩ h2
        · exact h3
  · rw [if_neg h1] at e0
    have e2 := e1 _ e0
    have h1' : 2 * i + 1 < n → s i ≤ s (2 * i + 1) := fun a => by
      rcases Int.lt_or_le (s (2 * i + 1)) (s i) with h3 | h3
      · exact absurd ⟨a, h3⟩ h1
      · exact h3
    by_cases h2 : 2 * i + 2 < n ∧ s (2 * i + 2) < s i
    · rw [if_pos h2] at e2
      rw [e2]
      refine ⟨Or.inr ⟨by omega, by omega, h2.2⟩, by omega, fun k a b c => ?_⟩
      rcases hk k a c with rfl | rfl
      · have := h1' b; omega
      · exact Int.le_refl _
    · rw [if_neg h2] at e2
      rw [e2]
      refine ⟨Or.inl rfl, Int.le_refl _, fun k a b c => ?_⟩
      rcases hk k a c with rfl | rfl
      · exact h1' b
      · rcases Int.lt_or_le (s (2 * i + 2)) (s i) with h3 | h3
        · exact absurd ⟨b, h3⟩ h2
        · exact h3
end Go.Proofs.YtelickcfodcmaaaGreatDoor

namespace Go.Proofs.YtelickcfodcmaaaGreatDoor
open Go.RowKit

set_option maxRecDepth 20000 in
set_option maxHeartbeats 4000000 in
theorem swapI_any (B O gH n cap i j : Nat) (x y : Int) (w : World) (hi : i < n) (hj : j < n) (_hn : n ≤ 1000) (h0 : w.cell? ⟨B, O, none⟩ = some (.slice (some ⟨gH, 0, none⟩) n cap)) (hx : w.cell? ⟨gH, i, none⟩ = some (.int .i64 x)) (hy : w.cell? ⟨gH, j, none⟩ = some (.int .i64 y))
    (hzi : w.frozen? ⟨gH, i, none⟩ = false) (hzj : w.frozen? ⟨gH, j, none⟩ = false) :
    Calls Tryz.prog 151 #[.pointer (some ⟨B, O, none⟩), .int .i64 i, .int .i64 j] w fun e w' => e = .returned (.tuple #[]) ∧ w' = (w.drew.setCell ⟨gH, i, none⟩ (.int .i64 y)).setCell ⟨gH, j, none⟩ (.int .i64 x) := by
  have hi' : (i : Int) < (n : Int) := by omega
  have hj' : (j : Int) < (n : Int) := by omega
  have hi0 : (0 : Int) ≤ (i : Int) := by omega
  have hj0 : (0 : Int) ≤ (j : Int) := by omega
  obtain ⟨y', hy'⟩ := cell?_setCell_some (w := w) (p := ⟨gH, i, none⟩) (x := .int .i64 y) hy
  go_enter Tryz.func151, Tryz.ntmps151
  go_wp2
  go_region
  all_goals
    go_wp2
    go_end0
    exact ⟨rfl, rfl⟩

theorem drewN_add (w : World) (p q : Nat) : (w.drewN p).drewN q = w.drewN (p + q) := by simp [World.drewN, Nat.add_assoc]
def numCells (s : Nat → Int) (n : Nat) : List Value := (elems s n).map (Value.int .i64)
theorem numCells_len (s : Nat → Int) (n : Nat) : (numCells s n).length = n := by simp [numCells, elems]
theorem numCells_at (s : Nat → Int) (n k : Nat) (h : k < n) : (numCells s n)[k]? = some (.int .i64 (s k)) := by simp [numCells, elems, h]
theorem numCells_ext {s : Nat → Int} {n : Nat} {xs : List Value} (hl : xs.length = n) (h : ∀ k, k < n → xs[k]? = some (.int .i64 (s k))) : xs = numCells s n := by
  apply List.ext_getElem?
  intro k
  by_cases hk : k < n
  · rw [h k hk, numCells_at s n k hk]
  · rw [List.getElem?_eq_none (by omega), List.getElem?_eq_none (by rw [numCells_len]; omega)]
/-- a row of n numbers of the call's own, its slice behind a pointer -/
structure HeapM (b0 : Nat) (W : World) (B O gH n cap : Nat) (s : Nat → Int) : Prop where
  sl : W.cell? ⟨B, O, none⟩ = some (.slice (some ⟨gH, 0, none⟩) n cap)
  own : W.ownsRow b0 3 1 (.slice (some ⟨gH, 0, none⟩) n cap) n (numCells s n)
  ne : B ≠ gH
theorem HeapM.at_ {b0 : Nat} {W : World} {B O gH n cap : Nat} {s : Nat → Int} (h : HeapM b0 W B O gH n cap s) : ∀ k, k < n → W.cell? ⟨gH, k, none⟩ = some (.int .i64 (s k)) ∧ W.frozen? ⟨gH, k, none⟩ = false := fun k hk =>
  ⟨(h.own.cellAt k (by omega)).trans (numCells_at s n k hk), h.own.frozenAt k⟩
theorem HeapM.drewN {b0 : Nat} {W : World} {B O gH n cap : Nat} {s : Nat → Int} (h : HeapM b0 W B O gH n cap s) (q : Nat) : HeapM b0 (W.drewN q) B O gH n cap s := ⟨h.sl, h.own, h.ne⟩
theorem HeapM.store {b0 : Nat} {W : World} {B O gH n cap : Nat} {s : Nat → Int} (h : HeapM b0 W B O gH n cap s) {i : Nat} (hi : i < n) (x : Int) : HeapM b0 (W.setCell ⟨gH, i, none⟩ (.int .i64 x)) B O gH n cap (fun k => if k = i then x else s k) := by
  refine ⟨(World.cell?_setCell_other _ _ _ _ (by intro e; cases e; exact h.ne rfl)).trans h.sl, ?_, h.ne⟩
  have ho := (h.own.stored i (.int .i64 x)).1
  have e : (numCells s n).set i (.int .i64 x) = numCells (fun k => if k = i then x else s k) n := numCells_ext (by rw [List.length_set, numCells_len]) (fun k hk => by
    rw [List.getElem?_set]
    by_cases e : i = k
    · subst e; simp [numCells_len, hk]
    · rw [if_neg e, numCells_at s n k hk, if_neg (fun e' => e e'.symm)])
  rw [e] at ho
  exact ho
theorem HeapM.swap {b0 : Nat} {W : World} {B O gH n cap : Nat} {s : Nat → Int} (h : HeapM b0 W B O gH n cap s) {i j : Nat} (hi : i < n) (hj : j < n) : HeapM b0 ((W.drew.setCell ⟨gH, i, none⟩ (.int .i64 (s j))).setCell ⟨gH, j, none⟩ (.int .i64 (s i))) B O gH n cap (swapF s i j) := by
  have h1 := ((h.drewN 1).store hi (s j)).store hj (s i)
  have e : (fun k => if k = j then s i else if k = i then s j else s k) = swapF s i j := rfl
  rw [e] at h1
  exact h1

set_option maxRecDepth 20000 in
set_option maxHeartbeats 4000000 in
theorem lesser_any (b0 B O gH n cap i : Nat) (s : Nat → Int) (w : World) (hi1 : i ≤ 1000) (_hn : n ≤ 1000) (h : HeapM b0 w B O gH n cap s) :
    Calls Tryz.prog 150 #[.pointer (some ⟨B, O, none⟩), .int .i64 i] w fun e w' => e = .returned (.int .i64 (lessAt s n i 2 : Nat)) ∧ ∃ q, w' = w.drewN q := by
  have h0 := h.sl
  go_enter Tryz.func150, Tryz.ntmps150
  go_wp2
  go_loopw [5, 6] (fun ll bb wr => ∃ (d : Nat), d ≤ 2 ∧ bb = .int .i64 ((2 * i + 1 + d : Nat) : Int) ∧ ll = .int .i64 (lessAt s n i d : Nat) ∧ ∃ q, wr = w.drewN q) (fun _ bb _ => (2 * i + 3 - intOf bb).toNat)
  case atStart => exact ⟨0, by omega, by go_num, rfl, 0, rfl⟩
  case round =>
    obtain ⟨d, hd, rfl, rfl, q, hwq'⟩ := hrel
    have hwq : Hid _ := hwq'
    have hM : HeapM b0 wr B O gH n cap s := by rw [hwq']; exact h.drewN q
    clear hwq'
    have hq0 := hM.sl
    by_cases hd2 : d < 2
    · have hb1 : ((2 * i + 1 + d : Nat) : Int) ≤ 2 * (i : Int) + 2 := by omega
      by_cases hbn : 2 * i + 1 + d < n
      · have hlt0 := lessAt_lt (s := s) (show i < n by omega) d
        have hl0 : (0 : Int) ≤ ((lessAt s n i d : Nat) : Int) := by omega
        have hl1 : ((lessAt s n i d : Nat) : Int) < (n : Int) := by omega
        have hstep : lessAt s n i (d + 1) = if 2 * i + 1 + d < n ∧ s (2 * i + 1 + d) < s (lessAt s n i d) then 2 * i + 1 + d else lessAt s n i d := rfl
        have c1 := (hM.at_ (2 * i + 1 + d) hbn).1
        have c2 := (hM.at_ (lessAt s n i d) hlt0).1
        have hst : Hid _ := hstep
        have hbb : ((2 * i + 1 + d : Nat) : Int) + 1 = ((2 * i + 1 + (d + 1) : Nat) : Int) := by omega
        have hbbH : Hid _ := hbb
        clear hstep hbb
        generalize lessAt s n i d = L at hst hlt0 hl0 hl1 c2 ⊢
        have hbe : Hid (2 * i + 1 + d = 2 * i + 1 + d) := by unfold Hid; rfl
        generalize hbx : 2 * i + 1 + d = bx at hb1 hbn c1 hst hbbH ⊢
        have hbx' : Hid _ := hbx
        clear hbx hbe
        have hbn' : (bx : Int) < (n : Int) := by omega
        have hbx0 : (0 : Int) ≤ (bx : Int) := by omega
        by_cases hc : s bx < s L
        · have ev : Hid (lessAt s n i (d + 1) = bx) := by unfold Hid; rw [hst.out, if_pos ⟨hbn, hc⟩]
          go_wp2
          go_quiet (fail)
          go_wp2
          go_roundw
          case rel => exact ⟨d + 1, by omega, by have := hbx'.out; go_num, by rw [ev.out], _, by rw [hwq.out]; exact drewN_add _ _ _⟩
          case measure => have := hbx'.out; simp [intOf]; omega
        · have ev : Hid (lessAt s n i (d + 1) = L) := by unfold Hid; rw [hst.out, if_neg (fun h => hc h.2)]
          go_wp2
          go_quiet (fail)
          go_wp2
          go_roundw
          case rel => exact ⟨d + 1, by omega, by have := hbx'.out; go_num, by rw [ev.out], _, by rw [hwq.out]; exact drewN_add _ _ _⟩
          case measure => have := hbx'.out; simp [intOf]; omega
      · have hfin : lessAt s n i 2 = lessAt s n i d := by
          have h1 : ∀ e, d ≤ e → e ≤ 2 → lessAt s n i e = lessAt s n i d := by
            intro e he he2
            induction e with
            | zero => obtain rfl : d = 0 := (by omega); rfl
            | succ e ih =>
              by_cases e3 : d = e + 1
              · subst e3; rfl
              · show (if 2 * i + 1 + e < n ∧ s (2 * i + 1 + e) < s (lessAt s n i e) then 2 * i + 1 + e else lessAt s n i e) = _
                rw [if_neg (fun h => by omega)]
                exact ih (by omega) (by omega)
          exact h1 2 (by omega) (Nat.le_refl _)
        have hfin' : Hid _ := hfin
        have hbn' : ¬ (((2 * i + 1 + d : Nat) : Int) < (n : Int)) := by omega
        clear hfin
        generalize hbx : 2 * i + 1 + d = bx at hb1 hbn' ⊢
        clear hbx hbn
        go_wp2
        go_ret
        exact ⟨by rw [hfin'.out]; rfl, q, hwq.out⟩
    · obtain rfl : d = 2 := by omega
      have hb1 : ¬ (((2 * i + 1 + 2 : Nat) : Int) ≤ 2 * (i : Int) + 2) := by omega
      generalize hbx : 2 * i + 1 + 2 = bx at hb1 ⊢
      clear hbx
      go_wp2
      go_ret
      exact ⟨rfl, q, hwq.out⟩

/-- only the row's block, and the one place of its slice, have been written -/
structure HFr (w w' : World) (B O gH : Nat) : Prop where
  os : w'.os = w.os
  tape : w'.tape = w.tape
  output : w'.output = w.output
  size : w'.heap.size = w.heap.size
  oth : ∀ k, k ≠ gH → k ≠ B → w'.heap[k]? = w.heap[k]?
  box : ∀ x, x ≠ O → w'.cell? ⟨B, x, none⟩ = w.cell? ⟨B, x, none⟩
  fz : ∀ k x, w'.frozen? ⟨k, x, none⟩ = w.frozen? ⟨k, x, none⟩
theorem HFr.refl (w : World) (B O gH : Nat) : HFr w w B O gH := ⟨rfl, rfl, rfl, rfl, fun _ _ _ => rfl, fun _ _ => rfl, fun _ _ => rfl⟩
theorem HFr.trans {a b c : World} {B O gH : Nat} (h : HFr a b B O gH) (k : HFr b c B O gH) : HFr a c B O gH :=
  ⟨k.os.trans h.os, k.tape.trans h.tape, k.output.trans h.output, k.size.trans h.size, fun x h1 h2 => (k.oth x h1 h2).trans (h.oth x h1 h2), fun x hx => (k.box x hx).trans (h.box x hx), fun x y => (k.fz x y).trans (h.fz x y)⟩
theorem HFr.drewN (w : World) (B O gH q : Nat) : HFr w (w.drewN q) B O gH := ⟨rfl, rfl, rfl, rfl, fun _ _ _ => rfl, fun _ _ => rfl, fun _ _ => rfl⟩
theorem HFr.row {w : World} {B O gH : Nat} (hne : B ≠ gH) (x : Nat) (u : Value) : HFr w (w.setCell ⟨gH, x, none⟩ u) B O gH :=
  ⟨rfl, rfl, rfl, by simp, fun k h1 _ => Below.heap_setCell w ⟨gH, x, none⟩ u k h1, fun y _ => World.cell?_setCell_other _ _ _ _ (by intro e; cases e; exact hne rfl), fun _ _ => World.frozen?_setCell _ _ _ _⟩
theorem HFr.sl {w : World} {B O gH : Nat} (u : Value) : HFr w (w.setCell ⟨B, O, none⟩ u) B O gH :=
  ⟨rfl, rfl, rfl, by simp, fun k _ h2 => Below.heap_setCell w ⟨B, O, none⟩ u k h2, fun y hy => cell_set_ne (fun e => hy e.symm), fun _ _ => World.frozen?_setCell _ _ _ _⟩
theorem HFr.swap {w : World} {B O gH : Nat} (hne : B ≠ gH) (i j : Nat) (u v : Value) : HFr w ((w.drew.setCell ⟨gH, i, none⟩ u).setCell ⟨gH, j, none⟩ v) B O gH :=
  ((HFr.drewN w B O gH 1).trans (HFr.row hne i u)).trans (HFr.row hne j v)

set_option maxRecDepth 20000 in
set_option maxHeartbeats 8000000 in
theorem pop_any (b0 B O gH n cap : Nat) (s : Nat → Int) (w : World) (hn0 : 0 < n) (hn : n ≤ 1000) (hcap : n ≤ cap) (h : HeapM b0 w B O gH n cap s) (hz : w.frozen? ⟨B, O, none⟩ = false) (hH : IsHeap s n) :
    Calls Tryz.prog 108 #[.pointer (some ⟨B, O, none⟩)] w fun e w' => e = .returned (.int .i64 (s 0)) ∧ ∃ s', HeapM b0 w' B O gH (n - 1) cap s' ∧ IsHeap s' (n - 1) ∧ (elems s n).Perm (s 0 :: elems s' (n - 1)) ∧ HFr w w' B O gH := by
  have h0 := h.sl
  obtain ⟨c0, f0⟩ := h.at_ 0 hn0
  obtain ⟨c1, f1⟩ := h.at_ (n - 1) (by omega)
  have hne := h.ne
  have e1 : ((n : Int) - 1) = ((n - 1 : Nat) : Int) := by omega
  have hw1 : IntKind.i64.wrap ((n : Int) - 1) = ((n - 1 : Nat) : Int) := by rw [IntKind.wrap_i64]; omega
  have hn1 : ((n - 1 : Nat) : Int) < (n : Int) := by omega
  have hn2 : (0 : Int) ≤ ((n - 1 : Nat) : Int) := by omega
  have hn3 : ((n - 1 : Nat) : Int) ≤ (cap : Int) := by omega
  have hn4 : (0 : Int) < (n : Int) := by omega
  have hs1 : HeapM b0 ((w.drew.setCell ⟨gH, 0, none⟩ (.int .i64 (s (n - 1)))).setCell ⟨B, O, none⟩ (.slice (some ⟨gH, 0, none⟩) (n - 1) cap)) B O gH (n - 1) cap (fun k => if k = 0 then s (n - 1) else s k) := by
    have h2 := (h.drewN 1).store hn0 (s (n - 1))
    refine ⟨World.cell?_setCell_same _ _ _ h2.sl, ?_, hne⟩
    refine ownsRow_same ?_ (fun k hk => Below.heap_setCell _ ⟨B, O, none⟩ _ k (by simp only [Value.ownBlock, Option.some.injEq] at hk; dsimp only; omega))
    obtain ⟨hl, hr⟩ := h2.own
    rcases hr with ⟨e, _⟩ | ⟨g', cap2, cur, e, hb, hg, hnc, hcm, hsz, htk⟩
    · cases e
    · injection e with e1 _ e3
      injection e1 with e1
      injection e1 with e1
      subst e1; subst e3
      refine ⟨by rw [numCells_len]; omega, .inr ⟨gH, cap, cur, rfl, hb, hg, by omega, hcm, hsz, ?_⟩⟩
      refine numCells_ext (by rw [List.length_take]; have h3 := congrArg List.length htk; rw [List.length_take, numCells_len] at h3; simp at h3 ⊢; omega) (fun k hk => ?_)
      have h4 := numCells_at (fun k => if k = 0 then s (n - 1) else s k) n k (by omega)
      rw [← htk, List.getElem?_take, if_pos (by omega)] at h4
      rw [List.getElem?_take, if_pos (by omega)]
      exact h4
  have hdown : DownHeap (fun k => if k = 0 then s (n - 1) else s k) (n - 1) 0 := by
    refine ⟨fun k k0 kn kp => ?_, fun k _ _ _ h00 => absurd h00 (Nat.lt_irrefl 0)⟩
    show (if (k - 1) / 2 = 0 then s (n - 1) else s ((k - 1) / 2)) ≤ (if k = 0 then s (n - 1) else s k)
    rw [if_neg kp, if_neg (by omega)]
    exact hH k k0 (by omega)
  have hperm : (elems s n).Perm (s 0 :: elems (fun k => if k = 0 then s (n - 1) else s k) (n - 1)) := by
    obtain ⟨m, rfl⟩ : ∃ m, n = m + 1 := ⟨n - 1, by omega⟩
    simp only [Nat.add_sub_cancel]
    cases m with
    | zero => exact List.Perm.refl _
    | succ m =>
      have l1 : elems s (m + 1 + 1) = s 0 :: (((List.range m).map fun k => s (k + 1)) ++ [s (m + 1)]) := by
        unfold elems
        rw [List.range_succ, List.range_succ_eq_map]
        simp [List.map_map, Function.comp]
      have l2 : elems (fun k => if k = 0 then s (m + 1) else s k) (m + 1) = s (m + 1) :: ((List.range m).map fun k => s (k + 1)) := by
        unfold elems
        rw [List.range_succ_eq_map]
        simp [List.map_map, Function.comp]
      rw [l1, l2]
      exact List.Perm.cons _ (List.perm_append_singleton _ _)
  have hfr1 : HFr w ((w.drew.setCell ⟨gH, 0, none⟩ (.int .i64 (s (n - 1)))).setCell ⟨B, O, none⟩ (.slice (some ⟨gH, 0, none⟩) (n - 1) cap)) B O gH := ((HFr.drewN w B O gH 1).trans (HFr.row hne 0 _)).trans (HFr.sl _)
  have hperm' : Hid _ := hperm
  have hdown' : Hid _ := hdown
  have hs1' : Hid _ := hs1
  have hfr1' : Hid _ := hfr1
  clear hperm hdown hs1 hfr1
  have hcs : (w.drew.setCell ⟨gH, 0, none⟩ (.int .i64 (s (n - 1)))).cell? ⟨B, O, none⟩ = some (.slice (some ⟨gH, 0, none⟩) n cap) := (World.cell?_setCell_other _ _ _ _ (by intro e; cases e; exact hne rfl)).trans h.sl
  generalize hnn : n - 1 = m at *
  have hnm : Hid _ := hnn
  clear hnn
  go_enter Tryz.func108, Tryz.ntmps108
  go_wp2
  go_region
  all_goals
    have hl0 := fun V q (hq : HeapM b0 V B O gH m cap q) => lesser_any b0 B O gH m cap 0 q V (by omega) (by omega) hq
    go_wp2_with (go_at_call 150; refine (hl0 _ _ hs1'.out).mono ?_; rintro _ w5 ⟨rfl, q5, hw5'⟩; have hw5 : Hid _ := hw5'; clear hw5')
    have hM5 : HeapM b0 w5 B O gH m cap (fun k => if k = 0 then s m else s k) := by rw [hw5.out]; exact hs1'.out.drewN q5
    have hF5 : HFr w w5 B O gH := by rw [hw5.out]; exact hfr1'.out.trans (HFr.drewN _ B O gH q5)
    clear hw5 hl0 hcs c0 c1 f0 f1 h0 hs1' hfr1'
    go_loopw [5, 6] (fun ii nn wr => ∃ (i : Nat) (s' : Nat → Int), ii = .int .i64 i ∧ nn = .int .i64 (lessAt s' m i 2 : Nat) ∧ (i < m ∨ i = 0) ∧ DownHeap s' m i ∧ (elems s' m).Perm (elems (fun k => if k = 0 then s m else s k) m) ∧ HeapM b0 wr B O gH m cap s' ∧ HFr w wr B O gH) (fun ii _ _ => m + 1 - (intOf ii).toNat)
    case atStart => exact ⟨0, _, rfl, rfl, Or.inr rfl, hdown'.out, List.Perm.refl _, hM5, hF5⟩
    case round =>
      obtain ⟨i, s', rfl, rfl, hi, hD, hPm, hM, hF⟩ := hrel
      by_cases hex : lessAt s' m i 2 = i
      · have hfin : Hid (∃ s', HeapM b0 wr B O gH m cap s' ∧ IsHeap s' m ∧ (elems s n).Perm (s 0 :: elems s' m) ∧ HFr w wr B O gH) := by
          refine ⟨s', hM, hD.done (fun k k0 kn kp => ?_), hperm'.out.trans (List.Perm.cons _ hPm.symm), hF⟩
          have := (lessAt_is s' m i (by omega)).2.2 k k0 kn kp
          rw [hex] at this
          exact this
        have hexb : (((lessAt s' m i 2 : Nat) : Int) != (i : Int)) = false := by simp; omega
        clear hex hM hD hPm hF
        generalize lessAt s' m i 2 = nx at hexb ⊢
        go_wp2
        go_ret
        exact ⟨rfl, hfin.out⟩
      · have him : i < m := by
          rcases hi with h1 | h1
          · exact h1
          · rcases Nat.eq_zero_or_pos m with h2 | h2
            · exfalso
              refine hex ?_
              subst h1
              simp [lessAt, h2]
            · omega
        obtain ⟨hl1, hl2, hl3⟩ := lessAt_is s' m i him
        have hlm := lessAt_lt (s := s') him 2
        have hl1' := hl1.resolve_left hex
        have hexb : (((lessAt s' m i 2 : Nat) : Int) != (i : Int)) = true := by simp; omega
        have hD2 : Hid _ := hD.step hl1'.1 hlm hl1'.2.1 hl1'.2.2 hl3
        have hgt : i < lessAt s' m i 2 := by have := hl1'.1; have := hl1'.2.1; omega
        clear hl1 hl2 hl3 hl1' hex
        generalize lessAt s' m i 2 = nx at hexb hD2 hlm hgt ⊢
        have hSw := swapI_any B O gH m cap i nx (s' i) (s' nx) wr him hlm (by omega) hM.sl (hM.at_ i him).1 (hM.at_ nx hlm).1 (hM.at_ i him).2 (hM.at_ nx hlm).2
        have hM2 := hM.swap him hlm
        have hF2 := hF.trans (HFr.swap (O := O) hM.ne i nx (.int .i64 (s' nx)) (.int .i64 (s' i)))
        have hPm2 : Hid _ := (elems_swap s' him hlm).trans hPm
        have hLs := lesser_any b0 B O gH m cap nx (swapF s' i nx) _ (by omega) (by omega) hM2
        go_wp2_with (first | (go_at_call 151; refine hSw.mono ?_; rintro _ w7 ⟨rfl, hw7⟩; rw [← hw7] at hM2 hF2 hLs; clear hw7 hSw) | (go_at_call 150; refine hLs.mono ?_; rintro _ w8 ⟨rfl, q8, hw8'⟩; have hw8 : Hid _ := hw8'; clear hw8'))
        go_roundw
        case rel => exact ⟨nx, _, rfl, rfl, Or.inl hlm, hD2.out, hPm2.out, by rw [hw8.out]; exact hM2.drewN q8, by rw [hw8.out]; exact hF2.trans (HFr.drewN _ B O gH q8)⟩
        case measure => simp [intOf]; omega
end Go.Proofs.YtelickcfodcmaaaGreatDoor

namespace Go.Proofs.YtelickcfodcmaaaGreatDoor
open Go.RowKit

theorem wpList_append_loc {P : Program} (w : World) {ops : Array Oper} {rest : List Oper} {o : Oper} {a : Act} {Q : Exit → Act → World → Prop} (hgd : o.guard = none) (s x : Operand) (t : TypeId)
    (ho : o.op = .call { callee := .builtin .append, args := #[s, x], argTypes := #[t, t] })
    (base : Nat) (e : TypeId) (i : TypeInfo) (z : Value) (size bytes : Nat) (ht : P.underlying t = some (.slice e)) (hi : P.info? e = some i) (hz : i.zero = some z)
    (hsize : i.size = size) (hby : i.bytes = bytes) (hzs : z.cells.size = size) (hsz : 0 < size)
    (v : Value) (n : Nat) (xs : List Value) (hs : a.eval s = v) (hown : w.ownsRow base e size v n xs)
    (ad : Addr) (m c : Nat) (news : List Value) (hx : a.eval x = .slice (some ad) m c) (hl : news.length = m * size) (hnews : ∀ j u, news[j]? = some u → w.cell? (ad.add j) = some u) (h1 : ∀ u ∈ news, u.oneCell' = true)
    (hbound : n + m ≤ maxLen) (hbytes : (n + m) * bytes ≤ 140737488355328) (hbase : base ≤ w.heap.size)
    (h : ∀ v' w', w'.ownsRow base e size v' (n + m) (xs ++ news) → w.grownBy w' v.ownBlock → (v'.ownBlock = v.ownBlock ∨ v'.ownBlock = some w.heap.size) → wpList P ops Q rest (a.put o.dst v') w') : wpList P ops Q (o :: rest) a w := by
  refine wpList_plain hgd fun K hK => ?_
  obtain ⟨v', w', hrun, r1, r2, _, r4⟩ := run_append_own_at (P := P) w base t o.type e i z size bytes ht hi hz hsize hby hzs hsz v n xs hown ad m c news hl hnews h1 hbound hbytes hbase
  unfold Oper.wp
  simp [execOp, ho, resolve, invoke, builtin, hs, hx, hrun, Result.andThen]
  exact hK _ _ (h v' w' r1 r2 r4)

theorem up_new {s : Nat → Int} {n : Nat} (h : IsHeap s n) (x : Int) : UpHeap (fun k => if k = n then x else s k) (n + 1) n := by
  refine ⟨fun k k0 kn kp => ?_, fun k k0 kn kp n0 => by omega⟩
  show (if (k - 1) / 2 = n then x else s ((k - 1) / 2)) ≤ (if k = n then x else s k)
  rw [if_neg (by omega), if_neg kp]
  exact h k k0 (by omega)
theorem elems_new (s : Nat → Int) (n : Nat) (x : Int) : (elems (fun k => if k = n then x else s k) (n + 1)).Perm (x :: elems s n) := by
  have e : elems (fun k => if k = n then x else s k) (n + 1) = elems s n ++ [x] := by
    unfold elems
    rw [List.range_succ, List.map_append]
    congr 1
    · apply List.map_congr_left
      intro k hk
      have := List.mem_range.1 hk
      rw [if_neg (by omega)]
    · simp
  rw [e]
  exact List.perm_append_singleton _ _

/-- only the slice's place in the box, and the row that it was or a new one, have been written -/
structure PFr (w w' : World) (B O : Nat) (row : Option Nat) (gH : Nat) : Prop where
  os : w'.os = w.os
  tape : w'.tape = w.tape
  output : w'.output = w.output
  size : w.heap.size ≤ w'.heap.size
  oth : ∀ k, k < w.heap.size → k ≠ B → some k ≠ row → w'.heap[k]? = w.heap[k]?
  box : ∀ x u, x ≠ O → w.cell? ⟨B, x, none⟩ = some u → w'.cell? ⟨B, x, none⟩ = some u ∧ w'.frozen? ⟨B, x, none⟩ = w.frozen? ⟨B, x, none⟩
  loc : some gH = row ∨ w.heap.size ≤ gH

set_option maxRecDepth 20000 in
set_option maxHeartbeats 8000000 in
theorem push_any (b0 B O n : Nat) (v : Value) (s : Nat → Int) (x : Int) (w : World) (hn : n ≤ 100) (hb0 : b0 ≤ w.heap.size) (h0 : w.cell? ⟨B, O, none⟩ = some v) (hz : w.frozen? ⟨B, O, none⟩ = false) (ho : w.ownsRow b0 3 1 v n (numCells s n)) (hBv : v.ownBlock ≠ some B) (hH : IsHeap s n) :
    Calls Tryz.prog 152 #[.pointer (some ⟨B, O, none⟩), .int .i64 x] w fun e w' => e = .returned (.tuple #[]) ∧ ∃ gH cap s', HeapM b0 w' B O gH (n + 1) cap s' ∧ IsHeap s' (n + 1) ∧ (elems s' (n + 1)).Perm (x :: elems s n) ∧ PFr w w' B O v.ownBlock gH ∧ w'.frozen? ⟨B, O, none⟩ = false := by
  obtain ⟨i0, hi, hz0, hz1, hz2⟩ := info_parts Tryz.infoInt
  have lB := ltCell h0
  dsimp only at lB
  go_enter Tryz.func152, Tryz.ntmps152
  go_wp2_with (at_builtin; refine wpList_append_loc _ rfl _ _ 23 rfl b0 3 i0 _ 1 8 Tryz.underlying23 hi hz0 hz1 hz2 rfl (by decide) _ _ _ rfl (ho.alloc _) ⟨w.heap.size, 0, none⟩ 1 1 [.int .i64 x] rfl rfl cells1_lie one1 (by unfold maxLen; omega) (by omega) (by simp only [World.size_alloc]; omega) ?_)
  intro v' w6 hown hgr hloc
  have hA := b1 w (.cells #[.int .i64 x] 3)
  have hsA : (w.alloc (.cells #[.int .i64 x] 3)).heap.size = w.heap.size + 1 := by simp
  obtain ⟨gH, cap, rfl⟩ := Joins.ownsRow_form hown (by omega)
  have hgB : B ≠ gH := by
    rcases hloc with e | e
    · intro e2; exact hBv (by rw [← e]; simp [Value.ownBlock, e2])
    · simp only [Value.ownBlock, Option.some.injEq] at e; omega
  have hbk : w6.heap[B]? = (w.alloc (.cells #[.int .i64 x] 3)).heap[B]? := hgr.block B (by omega) (fun e => hBv e.symm)
  have cb : ∀ o u, w.cell? ⟨B, o, none⟩ = some u → w6.cell? ⟨B, o, none⟩ = some u := fun o u hu => (World.cell?_of_block (w := w.alloc (.cells #[.int .i64 x] 3)) (w' := w6) (a := ⟨B, o, none⟩) hbk).trans (cellLater hA hu)
  have zb : ∀ o u, w.cell? ⟨B, o, none⟩ = some u → w6.frozen? ⟨B, o, none⟩ = w.frozen? ⟨B, o, none⟩ := fun o u hu => (World.frozen?_of_block (w := w.alloc (.cells #[.int .i64 x] 3)) (w' := w6) (a := ⟨B, o, none⟩) hbk).trans (hA.frozen (ltCell hu))
  have m0 := cb O _ h0
  have mz := (zb O _ h0).trans hz
  have hcells : numCells s n ++ [.int .i64 x] = numCells (fun k => if k = n then x else s k) (n + 1) := numCells_ext (by rw [List.length_append, numCells_len]; rfl) (fun k hk => by
    by_cases e : k = n
    · subst e
      rw [List.getElem?_append_right (by rw [numCells_len]; omega), numCells_len]
      simp
    · rw [List.getElem?_append_left (by rw [numCells_len]; omega), numCells_at s n k (by omega), if_neg e])
  rw [hcells] at hown
  have hM7 : HeapM b0 (w6.setCell ⟨B, O, none⟩ (.slice (some ⟨gH, 0, none⟩) (n + 1) cap)) B O gH (n + 1) cap (fun k => if k = n then x else s k) :=
    ⟨World.cell?_setCell_same _ _ _ m0, ownsRow_same hown (fun k hk => Below.heap_setCell _ ⟨B, O, none⟩ _ k (by simp only [Value.ownBlock, Option.some.injEq] at hk; dsimp only; omega)), hgB⟩
  have hP7 : PFr w (w6.setCell ⟨B, O, none⟩ (.slice (some ⟨gH, 0, none⟩) (n + 1) cap)) B O v.ownBlock gH := by
    refine ⟨hgr.os, hgr.tape, hgr.output, by have := hgr.size; simp; omega, fun k h1 h2 h3 => ?_, fun y u hy hu => ⟨(cell_set_ne (fun e => hy e.symm)).trans (cb y u hu), (World.frozen?_setCell _ _ _ _).trans (zb y u hu)⟩, ?_⟩
    · exact (Below.heap_setCell _ ⟨B, O, none⟩ _ k h2).trans ((hgr.block k (by omega) h3).trans (hA.block k h1))
    · rcases hloc with e | e
      · exact Or.inl (by rw [← e]; rfl)
      · refine Or.inr ?_
        simp only [Value.ownBlock, Option.some.injEq] at e
        omega
  have hz7 : (w6.setCell ⟨B, O, none⟩ (.slice (some ⟨gH, 0, none⟩) (n + 1) cap)).frozen? ⟨B, O, none⟩ = false := (World.frozen?_setCell _ _ _ _).trans mz
  have hup : Hid _ := up_new hH x
  have hpm : Hid _ := elems_new s n x
  have hM7' : Hid _ := hM7
  have hP7' : Hid _ := hP7
  have hz7' : Hid _ := hz7
  clear hM7 hP7 hz7 hown hgr hloc hbk cb zb hcells hA hsA h0 hz ho
  go_wp2
  go_loopw [4] (fun ii wr => ∃ (i : Nat) (s' : Nat → Int), ii = .int .i64 i ∧ i < n + 1 ∧ UpHeap s' (n + 1) i ∧ (elems s' (n + 1)).Perm (x :: elems s n) ∧ HeapM b0 wr B O gH (n + 1) cap s' ∧ HFr (w6.setCell ⟨B, O, none⟩ (.slice (some ⟨gH, 0, none⟩) (n + 1) cap)) wr B O gH) (fun ii _ => (intOf ii).toNat)
  case atStart => exact ⟨n, _, by go_num, by omega, hup.out, hpm.out, hM7'.out, HFr.refl _ _ _ _⟩
  case round =>
    obtain ⟨i, s', rfl, hin, hU, hPm, hM, hF⟩ := hrel
    have hsl := hM.sl
    have hend : IsHeap s' (n + 1) → (∀ q, ∃ gH cap s', HeapM b0 (wr.drewN q) B O gH (n + 1) cap s' ∧ IsHeap s' (n + 1) ∧ (elems s' (n + 1)).Perm (x :: elems s n) ∧ PFr w (wr.drewN q) B O v.ownBlock gH ∧ (wr.drewN q).frozen? ⟨B, O, none⟩ = false) := fun hi q => by
      have hF' := hF.trans (HFr.drewN wr B O gH q)
      have hP := hP7'.out
      refine ⟨gH, cap, s', hM.drewN q, hi, hPm, ⟨hF'.os.trans hP.os, hF'.tape.trans hP.tape, hF'.output.trans hP.output, by have := hP.size; have := hF'.size; omega, fun k h1 h2 h3 => ?_, fun y u hy hu => ?_, hP.loc⟩, ?_⟩
      · refine (hF'.oth k (fun e => ?_) h2).trans (hP.oth k h1 h2 h3)
        subst e
        rcases hP.loc with h4 | h4
        · exact h3 h4
        · omega
      · obtain ⟨h4, h5⟩ := hP.box y u hy hu
        exact ⟨(hF'.box y hy).trans h4, (hF'.fz B y).trans h5⟩
      · exact (hF'.fz B O).trans hz7'.out
    have hend' : Hid _ := hend
    clear hend
    by_cases hi0 : 0 < i
    · have hi0' : (0 : Int) < (i : Int) := by omega
      have hi0d : decide ((0 : Int) < (i : Int)) = true := decide_eq_true hi0'
      have hin' : (i : Int) < (n : Int) + 1 := by omega
      have hii0 : (0 : Int) ≤ (i : Int) := by omega
      have hpl : (i - 1) / 2 < n + 1 := by omega
      have hw1 : IntKind.i64.wrap ((i : Int) - 1) = (i : Int) - 1 := by rw [IntKind.wrap_i64]; omega
      have hq1 : ((i : Int) - 1).tdiv 2 = (((i - 1) / 2 : Nat) : Int) := by
        have e : ((i : Int) - 1) = ((i - 1 : Nat) : Int) := by omega
        rw [e, Int.tdiv_eq_ediv_of_nonneg (by omega)]
        omega
      have c1 := (hM.at_ i hin).1
      have c2 := (hM.at_ _ hpl).1
      generalize hpp : (i - 1) / 2 = pp at *
      have hpp' : Hid _ := hpp
      clear hpp
      have hpl' : (pp : Int) < (n : Int) + 1 := by omega
      have hpp0 : (0 : Int) ≤ (pp : Int) := by omega
      by_cases hc : s' i < s' pp
      · have hcd : decide (s' i < s' pp) = true := decide_eq_true hc
        have hU2 : Hid (UpHeap (swapF s' i pp) (n + 1) pp) := by have h1 := hU.step hin hi0 (by rw [hpp'.out]; exact hc); rw [hpp'.out] at h1; exact h1
        have hSw := fun V (hV : HeapM b0 V B O gH (n + 1) cap s') => swapI_any B O gH (n + 1) cap i pp (s' i) (s' pp) V hin hpl (by omega) hV.sl (hV.at_ i hin).1 (hV.at_ pp hpl).1 (hV.at_ i hin).2 (hV.at_ pp hpl).2
        have hPm2 : Hid _ := (elems_swap s' hin hpl).trans hPm
        have hMF : Hid (∀ q, HeapM b0 (wr.drewN q) B O gH (n + 1) cap s' ∧ HFr (w6.setCell ⟨B, O, none⟩ (.slice (some ⟨gH, 0, none⟩) (n + 1) cap)) (wr.drewN q) B O gH) := fun q => ⟨hM.drewN q, hF.trans (HFr.drewN wr B O gH q)⟩
        have hltp : Hid (pp < i) := by have := hpp'.out; exact (by omega : pp < i)
        clear hM hF hU hPm
        go_wp2
        go_quiet (fail)
        rename_i nq
        have hM1 := (hMF.out nq).1
        have hSw1 := hSw _ hM1
        have hM2 := hM1.swap hin hpl
        have hF2 := (hMF.out nq).2.trans (HFr.swap (O := O) hM1.ne i pp (.int .i64 (s' pp)) (.int .i64 (s' i)))
        clear hSw hM1 hMF
        go_wp2_with (go_at_call 151; refine hSw1.mono ?_; rintro _ w7 ⟨rfl, hw7⟩; rw [← hw7] at hM2 hF2; clear hw7 hSw1)
        go_roundw
        case rel => exact ⟨pp, _, rfl, hpl, hU2.out, hPm2.out, hM2, hF2⟩
        case measure => have := hltp.out; simp [intOf]; omega
      · have hcd : decide (s' i < s' pp) = false := decide_eq_false hc
        have hdone : IsHeap s' (n + 1) := hU.done (Or.inr (by rw [hpp'.out]; omega))
        have hdone' : Hid _ := hdone
        clear hdone
        go_wp2
        go_quiet (fail)
        go_wp2
        go_end0
        exact ⟨rfl, hend'.out hdone'.out _⟩
    · have hi0' : ¬ ((0 : Int) < (i : Int)) := by omega
      have hi0d : decide ((0 : Int) < (i : Int)) = false := decide_eq_false hi0'
      have hdone : IsHeap s' (n + 1) := hU.done (Or.inl (by omega))
      have hdone' : Hid _ := hdone
      clear hdone
      go_wp2
      go_quiet (fail)
      go_wp2
      go_end0
      exact ⟨rfl, hend'.out hdone'.out _⟩
end Go.Proofs.YtelickcfodcmaaaGreatDoor

namespace Go.Proofs.YtelickcfodcmaaaGreatDoor

def cntGe (L : List Int) (t : Int) : Nat := L.countP fun e => decide (t ≤ e)
theorem cntGe_perm {L M : List Int} (h : L.Perm M) (t : Int) : cntGe L t = cntGe M t := h.countP_eq _
theorem cntGe_cons (p : Int) (L : List Int) (t : Int) : cntGe (p :: L) t = cntGe L t + (if t ≤ p then 1 else 0) := by
  unfold cntGe
  rw [List.countP_cons]
  simp
theorem cntGe_all {L : List Int} {t : Int} (h : ∀ x ∈ L, t ≤ x) : cntGe L t = L.length := by
  unfold cntGe
  rw [List.countP_eq_length]
  exact fun x hx => decide_eq_true (h x hx)
theorem cntGe_le (L : List Int) (t : Int) : cntGe L t ≤ L.length := List.countP_le_length
theorem elems_len (s : Nat → Int) (n : Nat) : (elems s n).length = n := by simp [elems]
theorem elems_mem {s : Nat → Int} {n : Nat} {x : Int} : x ∈ elems s n ↔ ∃ k, k < n ∧ s k = x := by simp [elems]

/-- of the ends L, L' are left; from t0 on up to T the station is full, and from T on nothing that was taken out counts -/
structure SF (t0 E room : Int) (L : List Int) (T : Int) (L' : List Int) : Prop where
  lo : t0 ≤ T
  full : ∀ u, t0 ≤ u → u < T → room ≤ E + (cntGe L u : Int)
  keep : ∀ t, T ≤ t → cntGe L t = cntGe L' t
  mem : ∀ x ∈ L', x ∈ L
theorem SF.start (t0 E room : Int) (L : List Int) : SF t0 E room L t0 L := ⟨Int.le_refl _, fun u h1 h2 => by omega, fun _ _ => rfl, fun _ h => h⟩
theorem SF.step {t0 E room : Int} {L : List Int} {T : Int} {L' L2 : List Int} (h : SF t0 E room L T L') (p : Int) (hp : L'.Perm (p :: L2)) (hl : ∀ x ∈ L', p ≤ x) (hf : room ≤ E + (L'.length : Int)) : SF t0 E room L (if T < p + 1 then p + 1 else T) L2 := by
  refine ⟨by have := h.lo; split <;> omega, fun u h1 h2 => ?_, fun t ht => ?_, fun x hx => h.mem x (hp.mem_iff.2 (List.mem_cons_of_mem _ hx))⟩
  · rcases Int.lt_or_le u T with h3 | h3
    · exact h.full u h1 h3
    · have h4 : u ≤ p := by split at h2 <;> omega
      rw [h.keep u h3, cntGe_all (fun x hx => Int.le_trans h4 (hl x hx))]
      exact hf
  · have h3 : T ≤ t ∧ ¬ t ≤ p := by split at ht <;> omega
    rw [h.keep t h3.1, cntGe_perm hp, cntGe_cons, if_neg h3.2, Nat.add_zero]
theorem SF.free {t0 E room : Int} {L : List Int} {T : Int} {L' : List Int} (h : SF t0 E room L T L') (hf : E + (L'.length : Int) < room) : E + (cntGe L T : Int) < room := by
  have := cntGe_le L' T
  rw [h.keep T (Int.le_refl _)]
  omega
end Go.Proofs.YtelickcfodcmaaaGreatDoor
