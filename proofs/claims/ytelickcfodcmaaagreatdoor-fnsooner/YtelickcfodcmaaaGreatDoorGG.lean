/-
  The tracks of a board: the last hold of a track says from when on it is free.
  The plan of an order has no clash.
  The run of an order, step by step.
  A plan that can be is no sooner anywhere than the plan of its own order: plain.
  The plan of a plan's own order, held against it: plain.
  Where the library's sort and comparison lie in this program. (By the shelf's own tool; the numbers are the seat's: tools/shelf.sh prints them anew.)
  Holds put in order by when they begin, then by train: what the program hands to the sort, and what it gets.
-/
import Derived.Test.YtelickcfodcmaaaGreatDoorGC
import Derived.Test.YtelickcfodcmaaaGreatDoorGE
import Derived.Test.YtelickcfodcmaaaGreatDoorGF
import Derived.Test.YtelickcfodcmaaaGreatDoorGB
import Derived.Test.YtelickcfodcmaaaGreatDoorLateQ
import Derived.Test.YtelickcfodcmaaaGreatDoorProg
import Derived.Shelf.SlSortCmp.WholeK
import Derived.Shelf.SlicesG.Cmp
import Derived.Test.YtelickcfodcmaaaGreatDoorApp
namespace Go.Proofs.YtelickcfodcmaaaGreatDoor
open Go.RowKit

def freeH (f : Nat → TrainD) (P : Nat → RowD) (gap : Int) (j m : Nat) : Int := (P j).s m + ((f j).leg m).run + gap
theorem trackRow_is {f : Nat → TrainD} {P : Nat → RowD} {gap : Int} {i k j : Nat} {a : Int} : ∀ n, a ≤ trackRow f P gap i k j a n ∧ (∀ m, m < n → j ≠ i → trackOf (f j) m = trackOf (f i) k → freeH f P gap j m ≤ trackRow f P gap i k j a n) ∧
    (trackRow f P gap i k j a n = a ∨ ∃ m, m < n ∧ j ≠ i ∧ trackOf (f j) m = trackOf (f i) k ∧ trackRow f P gap i k j a n = freeH f P gap j m)
  | 0 => ⟨Int.le_refl _, fun m hm => absurd hm (Nat.not_lt_zero m), Or.inl rfl⟩
  | n + 1 => by
    obtain ⟨h1, h2, h3⟩ := trackRow_is (f := f) (P := P) (gap := gap) (i := i) (k := k) (j := j) (a := a) n
    simp only [trackRow]
    by_cases hc : j ≠ i ∧ trackOf (f j) n = trackOf (f i) k ∧ trackRow f P gap i k j a n < (P j).s n + ((f j).leg n).run + gap
    · rw [if_pos hc]
      refine ⟨by omega, fun m hm hj ht => ?_, Or.inr ⟨n, by omega, hc.1, hc.2.1, rfl⟩⟩
      rcases Nat.lt_or_ge m n with h | h
      · have := h2 m h hj ht; omega
      · obtain rfl : m = n := by omega
        exact Int.le_refl _
    · rw [if_neg hc]
      refine ⟨h1, fun m hm hj ht => ?_, ?_⟩
      · rcases Nat.lt_or_ge m n with h | h
        · exact h2 m h hj ht
        · obtain rfl : m = n := by omega
          exact Int.not_lt.1 (fun h4 => hc ⟨hj, ht, h4⟩)
      · rcases h3 with h3 | ⟨m, hm, hr⟩
        · exact Or.inl h3
        · exact Or.inr ⟨m, by omega, hr⟩
theorem trackAll_is {f : Nat → TrainD} {P : Nat → RowD} {gap : Int} {i k : Nat} {a : Int} : ∀ n, a ≤ trackAll f P gap i k a n ∧ (∀ j, j < n → ∀ m, m < (P j).n → j ≠ i → trackOf (f j) m = trackOf (f i) k → freeH f P gap j m ≤ trackAll f P gap i k a n) ∧
    (trackAll f P gap i k a n = a ∨ ∃ j m, j < n ∧ m < (P j).n ∧ j ≠ i ∧ trackOf (f j) m = trackOf (f i) k ∧ trackAll f P gap i k a n = freeH f P gap j m)
  | 0 => ⟨Int.le_refl _, fun j hj => absurd hj (Nat.not_lt_zero j), Or.inl rfl⟩
  | n + 1 => by
    obtain ⟨h1, h2, h3⟩ := trackAll_is (f := f) (P := P) (gap := gap) (i := i) (k := k) (a := a) n
    obtain ⟨r1, r2, r3⟩ := trackRow_is (f := f) (P := P) (gap := gap) (i := i) (k := k) (j := n) (a := trackAll f P gap i k a n) (P n).n
    simp only [trackAll]
    refine ⟨by omega, fun j hj m hm hji ht => ?_, ?_⟩
    · rcases Nat.lt_or_ge j n with h | h
      · have := h2 j h m hm hji ht; omega
      · obtain rfl : j = n := by omega
        exact r2 m hm hji ht
    · rcases r3 with r3 | ⟨m, hm, hji, ht, e⟩
      · rcases h3 with h3 | ⟨j, m, hj, hr⟩
        · exact Or.inl (r3.trans h3)
        · exact Or.inr ⟨j, m, by omega, hr.1, hr.2.1, hr.2.2.1, r3.trans hr.2.2.2⟩
      · exact Or.inr ⟨n, m, by omega, hm, hji, ht, e⟩

/-- who had a track last, from when, and from when on it is free -/
structure TrackD where
  tr : Nat
  frm : Int
  free : Int
/-- a board's tracks, and that each train's legs follow each other -/
structure TI (np : Nat) (f : Nat → TrainD) (P : Nat → RowD) (gap : Int) (T : Int → TrackD) : Prop where
  at_ : ∀ x, ((∀ j, j < np → ∀ m, m < (P j).n → trackOf (f j) m ≠ x) ∧ T x = ⟨0, 0, 0⟩) ∨
    (∃ j0 m0, j0 < np ∧ m0 < (P j0).n ∧ trackOf (f j0) m0 = x ∧ T x = ⟨j0, (P j0).s m0, freeH f P gap j0 m0⟩ ∧ ∀ j, j < np → ∀ m, m < (P j).n → trackOf (f j) m = x → (j ≠ j0 → freeH f P gap j m ≤ (P j0).s m0) ∧ freeH f P gap j m ≤ freeH f P gap j0 m0)
  chain : ∀ j, j < np → ∀ m, m + 1 < (P j).n → (P j).s m + ((f j).leg m).run ≤ (P j).s (m + 1)
def trackFreeD (T : Int → TrackD) (i : Nat) (x : Int) : Int := if ((T x).tr : Int) = (i : Int) then 0 else (T x).free
theorem TI.low {np : Nat} {f : Nat → TrainD} {P : Nat → RowD} {gap last : Int} {T : Int → TrackD} (h : TI np f P gap T) (hQ : PartP np f P last) {i k : Nat} {lw : Int} (hlw : last ≤ lw) :
    trackAll f P gap i k lw np = maxZ lw (trackFreeD T i (trackOf (f i) k)) := by
  obtain ⟨h1, h2, h3⟩ := trackAll_is (f := f) (P := P) (gap := gap) (i := i) (k := k) (a := lw) np
  have hl0 := hQ.l0
  unfold maxZ trackFreeD
  rcases h.at_ (trackOf (f i) k) with ⟨hno, hT⟩ | ⟨j0, m0, hj0, hm0, ht0, hT, hall⟩
  · rw [hT]
    have e : trackAll f P gap i k lw np = lw := by
      rcases h3 with h3 | ⟨j, m, hj, hm, _, ht, _⟩
      · exact h3
      · exact absurd ht (hno j hj m hm)
    rw [e]
    dsimp only
    split <;> split at * <;> omega
  · rw [hT]
    dsimp only
    by_cases hji : j0 = i
    · subst hji
      rw [if_pos rfl, if_neg (by omega : ¬ lw < 0)]
      rcases h3 with h3 | ⟨j, m, hj, hm, hji, ht, e⟩
      · exact h3
      · have h4 := (hall j hj m hm ht).1 hji
        have h5 := (hQ.at0 j0 hj0 m0 hm0).2
        omega
    · have e0 : ¬ ((j0 : Int) = (i : Int)) := by omega
      rw [if_neg e0]
      have h4 := h2 j0 hj0 m0 hm0 hji ht0
      rcases h3 with h3 | ⟨j, m, hj, hm, hji', ht, e⟩
      · rw [h3] at h4 ⊢; rw [if_neg (by omega)]
      · have h5 := (hall j hj m hm ht).2
        split <;> omega

theorem moreP_old {P : Nat → RowD} {i : Nat} {t : Int} {j m : Nat} (h : m < (P j).n) : (moreP P i t j).s m = (P j).s m := by
  unfold moreP
  by_cases e : j = i
  · subst e; rw [if_pos rfl]; dsimp only; rw [if_neg (by omega)]
  · rw [if_neg e]
theorem moreP_new {P : Nat → RowD} {i : Nat} {t : Int} : (moreP P i t i).s (P i).n = t := by
  unfold moreP; rw [if_pos rfl]; dsimp only; rw [if_pos rfl]
theorem moreP_n {P : Nat → RowD} {i : Nat} {t : Int} : (moreP P i t i).n = (P i).n + 1 := by unfold moreP; rw [if_pos rfl]
theorem moreP_other {P : Nat → RowD} {i : Nat} {t : Int} {j : Nat} (h : j ≠ i) : moreP P i t j = P j := by unfold moreP; rw [if_neg h]
theorem moreP_legs {P : Nat → RowD} {i : Nat} {t : Int} {j m : Nat} (h : m < (moreP P i t j).n) : m < (P j).n ∨ (j = i ∧ m = (P i).n) := by
  by_cases e : j = i
  · subst e; rw [moreP_n] at h; omega
  · rw [moreP_other e] at h; exact Or.inl h
theorem freeH_old {f : Nat → TrainD} {P : Nat → RowD} {gap : Int} {i : Nat} {t : Int} {j m : Nat} (h : m < (P j).n) : freeH f (moreP P i t) gap j m = freeH f P gap j m := by unfold freeH; rw [moreP_old h]
theorem moreP_lt {P : Nat → RowD} {i : Nat} {t : Int} {j m : Nat} (h : m < (P j).n) : m < (moreP P i t j).n := by
  by_cases e : j = i
  · subst e; rw [moreP_n]; omega
  · rw [moreP_other e]; exact h

theorem chain_le {f : Nat → TrainD} {r : RowD} {j : Nat} (hr : ∀ m, m < r.n → 0 ≤ ((f j).leg m).run) (hc : ∀ m, m + 1 < r.n → r.s m + ((f j).leg m).run ≤ r.s (m + 1)) : ∀ d m, m + d < r.n → r.s m + ((f j).leg m).run ≤ r.s (m + d) + ((f j).leg (m + d)).run
  | 0, _, _ => Int.le_refl _
  | d + 1, m, h => by
    have h1 := chain_le hr hc d m (by omega)
    have h2 := hc (m + d) (by omega)
    have h3 := hr (m + d + 1) (by omega)
    rw [show m + (d + 1) = m + d + 1 by omega]
    omega
theorem TI.more {np : Nat} {f : Nat → TrainD} {P : Nat → RowD} {gap last : Int} {T : Int → TrackD} (h : TI np f P gap T) {i : Nat} (hi : i < np) {t : Int} (hg : 0 ≤ gap) (hrun : ∀ j, j < np → ∀ m, m < (f j).nl → 0 ≤ ((f j).leg m).run) (hk : (P i).n < (f i).nl)
    (hlow : lowOf np f P gap last i ≤ t) (hrd : ∀ k, (P i).n = k + 1 → (P i).s k + ((f i).leg k).run ≤ t) :
    TI np f (moreP P i t) gap (fun x => if x = trackOf (f i) (P i).n then ⟨i, t, t + ((f i).leg (P i).n).run + gap⟩ else T x) := by
  have hfn : freeH f (moreP P i t) gap i (P i).n = t + ((f i).leg (P i).n).run + gap := by unfold freeH; rw [moreP_new]
  have hrk := hrun i hi _ hk
  refine ⟨fun x => ?_, fun j hj m hm => ?_⟩
  · by_cases hx : x = trackOf (f i) (P i).n
    · rw [if_pos hx]
      refine Or.inr ⟨i, (P i).n, hi, by rw [moreP_n]; omega, hx.symm, by rw [moreP_new, hfn], fun j hj m hm ht => ?_⟩
      rcases moreP_legs hm with hold | ⟨rfl, rfl⟩
      · rw [freeH_old hold, moreP_new, hfn]
        by_cases hji : j = i
        · subst hji
          refine ⟨fun e => absurd rfl e, ?_⟩
          cases hn : (P j).n with
          | zero => omega
          | succ k =>
            have h1 := hrd k hn
            have h2 := chain_le (f := f) (r := P j) (j := j) (fun m hm => hrun j hj m (by omega)) (h.chain j hj) (k - m) m (by omega)
            rw [show m + (k - m) = k by omega] at h2
            rw [hn] at hrk
            unfold freeH
            omega
        · have h1 := (trackAll_is (f := f) (P := P) (gap := gap) (i := i) (k := (P i).n) (a := maxZ (readyOf f P i (P i).n) last) np).2.1 j hj m hold hji (ht.trans hx)
          have h2 : freeH f P gap j m ≤ t := Int.le_trans h1 hlow
          exact ⟨fun _ => h2, by omega⟩
      · exact ⟨fun e => absurd rfl e, Int.le_refl _⟩
    · rw [if_neg hx]
      rcases h.at_ x with ⟨hno, hT⟩ | ⟨j0, m0, hj0, hm0, ht0, hT, hall⟩
      · refine Or.inl ⟨fun j hj m hm => ?_, hT⟩
        rcases moreP_legs hm with hold | ⟨rfl, rfl⟩
        · exact hno j hj m hold
        · exact fun e => hx e.symm
      · refine Or.inr ⟨j0, m0, hj0, moreP_lt hm0, ht0, by rw [moreP_old hm0, freeH_old hm0]; exact hT, fun j hj m hm ht => ?_⟩
        rcases moreP_legs hm with hold | ⟨rfl, rfl⟩
        · rw [freeH_old hold, moreP_old hm0, freeH_old hm0]
          exact hall j hj m hold ht
        · exact absurd ht.symm hx
  · by_cases hji : j = i
    · subst hji
      rw [moreP_n] at hm
      rw [moreP_old (by omega)]
      by_cases hl : m + 1 < (P j).n
      · rw [moreP_old hl]; exact h.chain j hj m hl
      · have e : (P j).n = m + 1 := by omega
        have h1 := hrd m e
        have h2 := moreP_new (P := P) (i := j) (t := t)
        rw [e] at h2
        rw [h2]; exact h1
    · rw [moreP_other hji] at hm ⊢
      exact h.chain j hj m hm
end Go.Proofs.YtelickcfodcmaaaGreatDoor

namespace Go.Proofs.YtelickcfodcmaaaGreatDoor
open Go.RowKit

/-- this leg has begun, and its train has a track of station s at a time -/
def nowB (f : Nat → TrainD) (P : Nat → RowD) (s t : Int) (j m : Nat) : Bool := decide ((P j).s m ≤ t) && hereB f P s t j m
def nowRow (f : Nat → TrainD) (P : Nat → RowD) (s t : Int) (j : Nat) : Nat → Nat
  | 0 => 0
  | m + 1 => nowRow f P s t j m + (if nowB f P s t j m = true then 1 else 0)
def nowAll (f : Nat → TrainD) (P : Nat → RowD) (s t : Int) : Nat → Nat
  | 0 => 0
  | j + 1 => nowAll f P s t j + nowRow f P s t j (P j).n
theorem nowRow_le (f : Nat → TrainD) (P : Nat → RowD) (s t : Int) (j : Nat) : ∀ m, nowRow f P s t j m ≤ thereRow f P s t j m
  | 0 => Nat.le_refl _
  | m + 1 => by
    have h0 := nowRow_le f P s t j m
    have h1 : nowB f P s t j m = true → hereB f P s t j m = true := by unfold nowB; rw [Bool.and_eq_true]; exact fun h => h.2
    simp only [nowRow, thereRow]
    by_cases e : nowB f P s t j m = true
    · rw [if_pos e, if_pos (h1 e)]; omega
    · rw [if_neg e]; omega
theorem nowAll_le (f : Nat → TrainD) (P : Nat → RowD) (s t : Int) : ∀ n, nowAll f P s t n ≤ thereAll f P s t n
  | 0 => Nat.le_refl _
  | n + 1 => by
    have h0 := nowAll_le f P s t n
    have h1 := nowRow_le f P s t n (P n).n
    simp only [nowAll, thereAll]; omega
theorem nowRow_same {f : Nat → TrainD} {P Q : Nat → RowD} {s t : Int} {j : Nat} : ∀ n, (∀ m, m < n → nowB f Q s t j m = nowB f P s t j m) → nowRow f Q s t j n = nowRow f P s t j n
  | 0, _ => rfl
  | n + 1, h => by simp only [nowRow]; rw [nowRow_same n (fun m hm => h m (by omega)), h n (by omega)]
theorem nowB_other {f : Nat → TrainD} {P : Nat → RowD} {i : Nat} {t s t' : Int} {j m : Nat} (h : j ≠ i) : nowB f (moreP P i t) s t' j m = nowB f P s t' j m := by
  unfold nowB hereB leaveO
  rw [moreP_other h]
theorem nowB_old {f : Nat → TrainD} {P : Nat → RowD} {i : Nat} {t s t' : Int} {m : Nat} (hk : (P i).n < (f i).nl) (hm : m < (P i).n) (ht : t' ≤ t) : nowB f (moreP P i t) s t' i m = nowB f P s t' i m := by
  unfold nowB hereB leaveO
  rw [moreP_old hm, moreP_n]
  by_cases e : m + 1 < (P i).n
  · rw [if_pos e, if_pos (by omega), moreP_old e]
  · have e2 : m + 1 = (P i).n := by omega
    have e3 : (moreP P i t i).s (m + 1) = t := by rw [e2]; exact moreP_new
    rw [if_neg e, if_pos (by omega), if_pos (by omega), e3]
    simp [ht]
theorem nowB_new {f : Nat → TrainD} {P : Nat → RowD} {i : Nat} {t s t' : Int} (h : t' < t ∨ stOf f P i ≠ s) : nowB f (moreP P i t) s t' i (P i).n = false := by
  unfold nowB hereB
  rw [moreP_new]
  rcases h with h | h
  · rw [decide_eq_false (by omega)]; rfl
  · have : ((f i).leg (P i).n).to ≠ s := h
    simp [this]
theorem nowRow_more {f : Nat → TrainD} {P : Nat → RowD} {i : Nat} {t s t' : Int} (hk : (P i).n < (f i).nl) (ht : t' ≤ t) : nowRow f (moreP P i t) s t' i ((P i).n + 1) = nowRow f P s t' i (P i).n + (if nowB f (moreP P i t) s t' i (P i).n = true then 1 else 0) := by
  simp only [nowRow]
  rw [nowRow_same (P := P) (P i).n (fun m hm => nowB_old hk hm ht)]
theorem nowAll_more {f : Nat → TrainD} {P : Nat → RowD} {i : Nat} {t s t' : Int} (hk : (P i).n < (f i).nl) (ht : t' ≤ t) : ∀ n, nowAll f (moreP P i t) s t' n = nowAll f P s t' n + (if i < n ∧ nowB f (moreP P i t) s t' i (P i).n = true then 1 else 0)
  | 0 => by simp [nowAll]
  | n + 1 => by
    simp only [nowAll]
    rw [nowAll_more hk ht n]
    by_cases e : n = i
    · subst e
      rw [moreP_n, nowRow_more hk ht, if_neg (by omega)]
      by_cases hb : nowB f (moreP P n t) s t' n (P n).n = true
      · rw [if_pos hb, if_pos ⟨by omega, hb⟩]; omega
      · rw [if_neg hb, if_neg (by simp [hb])]; omega
    · rw [moreP_other e, nowRow_same (P := P) (P n).n (fun m _ => nowB_other e)]
      by_cases h2 : i < n ∧ nowB f (moreP P i t) s t' i (P i).n = true
      · rw [if_pos h2, if_pos ⟨by omega, h2.2⟩]; omega
      · rw [if_neg h2, if_neg (fun h3 => h2 ⟨by omega, h3.2⟩)]; omega
/-- no leg of those placed clashes -/
structure NoC (np : Nat) (g : Nat → Int) (gap : Int) (f : Nat → TrainD) (P : Nat → RowD) : Prop where
  ready : ∀ j, j < np → ∀ m, m < (P j).n → readyOf f P j m ≤ (P j).s m
  track : ∀ i, i < np → ∀ k, k < (P i).n → ∀ j, j < np → ∀ m, m < (P j).n → i ≠ j → trackOf (f i) k = trackOf (f j) m → freeH f P gap j m ≤ (P i).s k ∨ freeH f P gap i k ≤ (P j).s m
  room : ∀ i, i < np → ∀ k, k < (P i).n → (nowAll f P ((f i).leg k).to ((P i).s k) np : Int) ≤ g ((f i).leg k).to.toNat
theorem NoC.start (np : Nat) (g : Nat → Int) (gap : Int) (f : Nat → TrainD) : NoC np g gap f (fun _ => ⟨0, fun _ => 0⟩) :=
  ⟨fun _ _ _ hm => absurd hm (Nat.not_lt_zero _), fun _ _ _ hk => absurd hk (Nat.not_lt_zero _), fun _ _ _ hk => absurd hk (Nat.not_lt_zero _)⟩
theorem readyOf_more {f : Nat → TrainD} {P : Nat → RowD} {i : Nat} {t : Int} {j m : Nat} (h : m ≤ (P j).n) : readyOf f (moreP P i t) j m = readyOf f P j m := by
  cases m with
  | zero => rfl
  | succ m => simp only [readyOf]; rw [moreP_old (by omega)]
theorem NoC.more {np : Nat} {g : Nat → Int} {gap : Int} {f : Nat → TrainD} {P : Nat → RowD} {last t : Int} (h : NoC np g gap f P) (hQ : PartP np f P last) {i : Nat} (hi : i < np) (hk : (P i).n < (f i).nl) (hf : IsFirst np g f P (stOf f P i) (lowOf np f P gap last i) t) : NoC np g gap f (moreP P i t) := by
  obtain ⟨l1, l2, _⟩ := trackAll_is (f := f) (P := P) (gap := gap) (i := i) (k := (P i).n) (a := maxZ (readyOf f P i (P i).n) last) np
  have hlow : trackAll f P gap i (P i).n (maxZ (readyOf f P i (P i).n) last) np ≤ t := hf.1
  have hmx : readyOf f P i (P i).n ≤ maxZ (readyOf f P i (P i).n) last ∧ last ≤ maxZ (readyOf f P i (P i).n) last := by unfold maxZ; split <;> omega
  have hfull : (thereAll f P (stOf f P i) t np : Int) < g (stOf f P i).toNat := by
    have := hf.2.1; unfold fullAt at this; omega
  have hnow : ((nowAll f P (stOf f P i) t np : Nat) : Int) + 1 ≤ g (stOf f P i).toNat := by
    have := nowAll_le f P (stOf f P i) t np; omega
  refine ⟨fun j hj m hm => ?_, fun a ha k hka j hj m hm hne htr => ?_, fun j hj m hm => ?_⟩
  · rcases moreP_legs hm with h1 | ⟨rfl, rfl⟩
    · rw [readyOf_more (by omega), moreP_old h1]; exact h.ready j hj m h1
    · rw [readyOf_more (Nat.le_refl _), moreP_new]; omega
  · rcases moreP_legs hka with h1 | ⟨rfl, rfl⟩
    · rcases moreP_legs hm with h2 | ⟨rfl, rfl⟩
      · rw [freeH_old h1, freeH_old h2, moreP_old h1, moreP_old h2]; exact h.track a ha k h1 j hj m h2 hne htr
      · rw [freeH_old h1, moreP_new]
        have := l2 a ha k h1 hne htr
        exact Or.inr (by omega)
    · rcases moreP_legs hm with h2 | ⟨rfl, rfl⟩
      · rw [freeH_old h2, moreP_new]
        have := l2 j hj m h2 (fun e => hne e.symm) htr.symm
        exact Or.inl (by omega)
      · exact absurd rfl hne
  · rcases moreP_legs hm with h1 | ⟨rfl, rfl⟩
    · have hl := (hQ.at0 j hj m h1).2
      have hr := h.room j hj m h1
      rw [moreP_old h1, nowAll_more hk (by omega)]
      by_cases hb : i < np ∧ nowB f (moreP P i t) ((f j).leg m).to ((P j).s m) i (P i).n = true
      · rw [if_pos hb]
        have hst : stOf f P i = ((f j).leg m).to ∧ t ≤ (P j).s m := by
          refine ⟨Classical.byContradiction fun e => ?_, Int.not_lt.1 fun e => ?_⟩
          · rw [nowB_new (Or.inr e)] at hb; exact absurd hb.2 (by decide)
          · rw [nowB_new (Or.inl e)] at hb; exact absurd hb.2 (by decide)
        have ht : (P j).s m = t := by omega
        rw [← hst.1, ht]
        omega
      · rw [if_neg hb]; exact hr
    · rw [moreP_new, nowAll_more hk (Int.le_refl _)]
      show ((nowAll f P (stOf f P j) t np + _ : Nat) : Int) ≤ g (stOf f P j).toNat
      split <;> omega
theorem leavesOf_ge {len np : Nat} {g : Nat → Int} {gap : Int} {f : Nat → TrainD} {P : Nat → RowD} (hR : RightL len np f) (h : NoC np g gap f P) (hn : ∀ j, j < np → (P j).n = (f j).nl) {i k : Nat} (hi : i < np) (hk : k < (f i).nl) : (P i).s k ≤ leavesOf f P i k := by
  have hl := (hR.train i hi).leg k hk
  unfold leavesOf
  split
  · rename_i e
    have h1 := h.ready i hi (k + 1) e
    have h2 := (hR.train i hi).leg (k + 1) (by rw [← hn i hi]; exact e)
    simp only [readyOf] at h1
    omega
  · omega
theorem count_le {len np : Nat} {g : Nat → Int} {gap : Int} {f : Nat → TrainD} {P : Nat → RowD} (hR : RightL len np f) (h : NoC np g gap f P) (hn : ∀ j, j < np → (P j).n = (f j).nl) {i k : Nat} (hi : i < np) (hk : k < (f i).nl) {j : Nat} (hj : j < np) : ∀ m, m ≤ (f j).nl → countRow f P i k j m ≤ nowRow f P ((f i).leg k).to ((P i).s k) j m
  | 0, _ => Nat.le_refl _
  | m + 1, hm => by
    have h0 := count_le hR h hn hi hk hj m (by omega)
    simp only [countRow, nowRow]
    by_cases hs : skipB f P i k j m = true
    · rw [if_pos hs]; omega
    · have hb : nowB f P ((f i).leg k).to ((P i).s k) j m = true := by
        unfold skipB at hs
        rw [decide_eq_true_eq] at hs
        have hto : ((f j).leg m).to = ((f i).leg k).to := Classical.byContradiction fun e => hs (Or.inl e)
        have hle : (P j).s m ≤ (P i).s k := Int.not_lt.1 fun e => hs (Or.inr (Or.inl e))
        have hlv : (P i).s k ≤ leavesOf f P j m := by
          refine Int.not_lt.1 fun e => ?_
          by_cases hjm : j = i ∧ m = k
          · obtain ⟨rfl, rfl⟩ := hjm
            have := leavesOf_ge hR h hn hi hk
            omega
          · exact hs (Or.inr (Or.inr (Or.inr ⟨e, by by_cases hji : j = i; exact Or.inr (fun e2 => hjm ⟨hji, e2⟩); exact Or.inl hji⟩)))
        have hlo : leaveO f P j m = some (leavesOf f P j m) := by
          unfold leaveO leavesOf
          by_cases e : m + 1 < (P j).n
          · rw [if_pos e, if_pos e]
          · rw [if_neg e, if_neg e, if_neg (by rw [← hn j hj]; exact e)]
        unfold nowB hereB
        rw [hlo]
        simp [hto, hle, hlv]
      rw [if_neg hs, if_pos hb]; omega
theorem countAll_now {len np : Nat} {g : Nat → Int} {gap : Int} {f : Nat → TrainD} {P : Nat → RowD} (hR : RightL len np f) (h : NoC np g gap f P) (hn : ∀ j, j < np → (P j).n = (f j).nl) {i k : Nat} (hi : i < np) (hk : k < (f i).nl) : ∀ n, n ≤ np → countAll f P i k n ≤ nowAll f P ((f i).leg k).to ((P i).s k) n
  | 0, _ => Nat.le_refl _
  | n + 1, hle => by
    have h0 := countAll_now hR h hn hi hk n (by omega)
    have h1 := count_le hR h hn hi hk (show n < np by omega) (f n).nl (Nat.le_refl _)
    simp only [countAll, nowAll]
    rw [hn n (by omega)]
    omega
/-- a plan, whole, of legs none of which clashes, can be -/
theorem NoC.clash {len np : Nat} {g : Nat → Int} {gap last : Int} {f : Nat → TrainD} {P : Nat → RowD} (hF : faultOf len g gap np f = (0, 0)) (h : NoC np g gap f P) (hQ : PartP np f P last) (hn : ∀ j, j < np → (P j).n = (f j).nl) : clashOf len g gap np f np P = (0, 0, 0, 0) := by
  have hR := rightL_of hF
  have hG := rightG_of hF
  have hS : shapeB np f np P = true := by
    unfold shapeB
    rw [decide_eq_true_eq]
    refine ⟨rfl, fun i hi => ⟨hn i hi, fun k hk => ?_⟩⟩
    have h1 := hQ.at0 i hi k hk
    have h2 := hQ.l1
    unfold inB
    rw [decide_eq_true_eq]
    omega
  refine clashOf_zero hF hS (fun j hj m hm => h.ready j hj m (by rw [hn j hj]; exact hm)) (fun i hi k hk => withOf_none (fun j hj m hm => ?_)) (fun i hi k hk => ?_)
  · unfold onB
    rw [decide_eq_false_iff_not]
    rintro ⟨hne, htr, h1, _, h3⟩
    have hrun := (hR.train i hi).leg k hk
    have hg := hG.g0
    rcases h.track i hi k (by rw [hn i hi]; exact hk) j hj m (by rw [hn j hj]; exact hm) hne htr with e | e
    · unfold freeH at e; omega
    · unfold freeH at e; omega
  · unfold fullB
    rw [decide_eq_false_iff_not]
    have h1 := h.room i hi k (by rw [hn i hi]; exact hk)
    have h2 := countAll_now hR h hn hi hk np (Nat.le_refl _)
    omega
end Go.Proofs.YtelickcfodcmaaaGreatDoor

namespace Go.Proofs.YtelickcfodcmaaaGreatDoor
open Go.RowKit

section
variable {len np : Nat} {g : Nat → Int} {gap : Int} {f : Nat → TrainD} {o : Nat → Int}
theorem run_step {n : Nat} (hc : (runP np g f gap o (n + 1)).code = 0) : (runP np g f gap o n).code = 0 ∧ ∃ (i : Nat) (t : Int), i < np ∧ o n = (i : Int) ∧ ((runP np g f gap o n).P i).n ≠ (f i).nl ∧ IsFirst np g f (runP np g f gap o n).P (stOf f (runP np g f gap o n).P i) (lowOf np f (runP np g f gap o n).P gap (runP np g f gap o n).last i) t ∧ runP np g f gap o (n + 1) = ⟨0, 0, moreP (runP np g f gap o n).P i t, t⟩ := by
  have h0 : (runP np g f gap o n).code = 0 := Classical.byContradiction fun e => by
    have := runP_stick e 1
    rw [this] at hc
    exact e hc
  refine ⟨h0, ?_⟩
  have hs : runP np g f gap o (n + 1) = stepP np g f gap (o n) n (runP np g f gap o n) := rfl
  rw [hs] at hc ⊢
  unfold stepP at hc ⊢
  rw [if_neg (by simp [h0])] at hc ⊢
  by_cases hb : inB (o n) 0 ((np : Int) - 1) = true
  · rw [if_pos hb] at hc ⊢
    have hr := of_decide_eq_true hb
    by_cases hn : (nextOf np g f (runP np g f gap o n).P gap (runP np g f gap o n).last (o n).toNat).1 = 0
    · rw [if_pos hn]
      refine ⟨(o n).toNat, _, by omega, by omega, ?_, ?_, rfl⟩
      · intro e
        rw [nextOf_two e] at hn
        exact absurd hn (by decide)
      · unfold nextOf at hn ⊢
        by_cases e1 : ((runP np g f gap o n).P (o n).toNat).n = (f (o n).toNat).nl
        · rw [if_pos e1] at hn; exact absurd hn (by decide)
        · rw [if_neg e1] at hn ⊢
          split
          · rename_i h1
            exact h1.choose_spec
          · rename_i h1
            rw [dif_neg h1] at hn
            exact absurd hn (by decide)
    · rw [if_neg hn] at hc
      exact absurd hc hn
  · rw [if_neg hb] at hc
    exact absurd hc (by simp)
theorem run_all (hR : RightL len np f) (hG : RightG len g gap np f) : ∀ n, n ≤ 10 → (runP np g f gap o n).code = 0 → RunOk len np g f gap (runP np g f gap o n) n ∧ NoC np g gap f (runP np g f gap o n).P
  | 0, _, _ => ⟨runP_zero np g f gap o len, NoC.start np g gap f⟩
  | n + 1, hn, hc => by
    obtain ⟨h0, i, t, hi, ho, hne, hf, e⟩ := run_step hc
    obtain ⟨h1, h2⟩ := run_all hR hG n (by omega) h0
    have hk : ((runP np g f gap o n).P i).n < (f i).nl := by have := h1.part.le i hi; omega
    rw [e]
    exact ⟨(runOk_step hR hG h1 h0 hi hk hf (by omega)).2, h2.more h1.part hi hk hf⟩
theorem run_ext {n : Nat} : ∀ d, (runP np g f gap o (n + d)).code = 0 → (runP np g f gap o n).code = 0 ∧ ∀ j m, m < ((runP np g f gap o n).P j).n → m < ((runP np g f gap o (n + d)).P j).n ∧ ((runP np g f gap o (n + d)).P j).s m = ((runP np g f gap o n).P j).s m
  | 0, h => ⟨h, fun _ _ hm => ⟨hm, rfl⟩⟩
  | d + 1, h => by
    obtain ⟨h0, i, t, _, _, _, _, e⟩ := run_step (n := n + d) h
    obtain ⟨h1, h2⟩ := run_ext (n := n) d h0
    refine ⟨h1, fun j m hm => ?_⟩
    obtain ⟨h3, h4⟩ := h2 j m hm
    rw [show n + (d + 1) = n + d + 1 from rfl, e]
    exact ⟨moreP_lt h3, (moreP_old h3).trans h4⟩
/-- step n of a whole run: whose leg, which, and when it begins in the plan -/
theorem run_leg (hR : RightL len np f) (hG : RightG len g gap np f) {no n : Nat} (hno : no ≤ 10) (hc : (runP np g f gap o no).code = 0) (hn : n < no) : ∃ i : Nat, i < np ∧ o n = (i : Int) ∧ ((runP np g f gap o n).P i).n < ((runP np g f gap o no).P i).n ∧ ((runP np g f gap o no).P i).s ((runP np g f gap o n).P i).n = (runP np g f gap o (n + 1)).last ∧ (runP np g f gap o n).last ≤ (runP np g f gap o (n + 1)).last ∧ ∀ j, ((runP np g f gap o (n + 1)).P j).n = ((runP np g f gap o n).P j).n + (if j = i then 1 else 0) := by
  obtain ⟨d, rfl⟩ : ∃ d, no = n + 1 + d := ⟨no - (n + 1), by omega⟩
  obtain ⟨h1, hx⟩ := run_ext (n := n + 1) d hc
  obtain ⟨h0, i, t, hi, ho, hne, hf, e⟩ := run_step h1
  obtain ⟨hk, _⟩ := run_all hR hG n (by omega) h0
  have hk2 : ((runP np g f gap o n).P i).n < (f i).nl := by have := hk.part.le i hi; omega
  have hnew : ((runP np g f gap o n).P i).n < ((runP np g f gap o (n + 1)).P i).n := by rw [e]; show _ < (moreP _ _ _ _).n; rw [moreP_n]; omega
  obtain ⟨hx1, hx2⟩ := hx i _ hnew
  refine ⟨i, hi, ho, hx1, ?_, ?_, fun j => ?_⟩
  · rw [hx2, e]; exact moreP_new
  · rw [e]
    have := (low_bd hR hG hk.part hi hk2).1
    have := hf.1
    show (runP np g f gap o n).last ≤ t
    omega
  · rw [e]
    show (moreP _ _ _ j).n = _
    by_cases hj : j = i
    · subst hj; rw [moreP_n, if_pos rfl]
    · rw [moreP_other hj, if_neg hj]; omega
theorem rows_full {P : Nat → RowD} : ∀ {n : Nat}, (∀ j, j < n → (P j).n ≤ (f j).nl) → rowSumQ P n = legSum f n → ∀ j, j < n → (P j).n = (f j).nl
  | 0, _, _ => fun j hj => absurd hj (Nat.not_lt_zero j)
  | n + 1, hle, he => fun j hj => by
    have hs : ∀ m, m ≤ n → rowSumQ P m ≤ legSum f m := fun m => by
      induction m with
      | zero => exact fun _ => Nat.le_refl _
      | succ m ih =>
        intro hm
        have h1 := ih (by omega)
        have h2 := hle m (by omega)
        simp only [rowSumQ, legSum]; omega
    have h1 := hs n (Nat.le_refl _)
    have h2 := hle n (by omega)
    simp only [rowSumQ, legSum] at he
    by_cases e : j = n
    · subst e; omega
    · exact rows_full (n := n) (fun j hj => hle j (by omega)) (by omega) j (by omega)
theorem placeSt_zero {no : Nat} (h : (placeSt len g gap np f no o).code = 0) : faultOf len g gap np f = (0, 0) ∧ no ≤ 10 ∧ (runP np g f gap o no).code = 0 ∧ no = legSum f np ∧ placeSt len g gap np f no o = runP np g f gap o no := by
  unfold placeSt at h ⊢
  by_cases hb : (faultOf len g gap np f).1 = 0 ∧ no ≤ 10
  · rw [if_pos hb] at h ⊢
    by_cases hc : (runP np g f gap o no).code = 0
    · rw [if_neg (by simp [hc])] at h ⊢
      by_cases hl : no = legSum f np
      · rw [if_pos hl]
        exact ⟨faultOf_snd hb.1, hb.2, hc, hl, rfl⟩
      · rw [if_neg hl] at h; exact absurd h (by simp)
    · rw [if_pos hc] at h; exact absurd h hc
  · rw [if_neg hb] at h; exact absurd h (by simp)
/-- the plan of an order, where it has one, can be -/
theorem placed_clash {no : Nat} (h : (placeSt len g gap np f no o).code = 0) : clashOf len g gap np f np (placeSt len g gap np f no o).P = (0, 0, 0, 0) := by
  obtain ⟨hF, hno, hc, hl, e⟩ := placeSt_zero h
  obtain ⟨h1, h2⟩ := run_all (rightL_of hF) (rightG_of hF) no hno hc
  rw [e]
  exact h2.clash hF h1.part (rows_full h1.part.le (by rw [h1.sum, hl]))
end
end Go.Proofs.YtelickcfodcmaaaGreatDoor

namespace Go.Proofs.YtelickcfodcmaaaGreatDoor
open Go.RowKit

theorem firstBad_allO {p : Nat → Bool} : ∀ {n : Nat}, firstBad p n = none → ∀ j, j < n → p j = true
  | 0, _, j, h => absurd h (Nat.not_lt_zero j)
  | n + 1, h, j, hj => by
    simp only [firstBad] at h
    cases e : firstBad p n with
    | some i => rw [e] at h; cases h
    | none =>
      rw [e] at h
      dsimp only at h
      by_cases hp : p n = true
      · rcases Nat.lt_succ_iff_lt_or_eq.1 hj with h1 | rfl
        · exact firstBad_allO e j h1
        · exact hp
      · rw [if_neg hp] at h; cases h
theorem firstBad_badO {p : Nat → Bool} {i : Nat} : ∀ {n : Nat}, firstBad p n = some i → p i = false
  | 0, h => by simp [firstBad] at h
  | n + 1, h => by
    simp only [firstBad] at h
    cases e : firstBad p n with
    | some j => rw [e] at h; cases h; exact firstBad_badO e
    | none =>
      rw [e] at h
      dsimp only at h
      by_cases hp : p n = true
      · rw [if_pos hp] at h; cases h
      · rw [if_neg hp] at h; cases h; exact Bool.eq_false_iff.2 hp
theorem first2_allO {n : Nat} {len : Nat → Nat} {p : Nat → Nat → Bool} (h : first2 n len p = none) : ∀ i, i < n → ∀ k, k < len i → p i k = true := fun i hi k hk => by
  unfold first2 at h
  cases e : firstBad (fun i => (firstBad (p i) (len i)).isNone) n with
  | none => exact firstBad_allO (Option.isNone_iff_eq_none.1 (firstBad_allO e i hi)) k hk
  | some j =>
    rw [e] at h
    dsimp only at h
    have hb := firstBad_badO e
    cases e2 : firstBad (p j) (len j) with
    | some m => rw [e2] at h; cases h
    | none => rw [e2] at hb; cases hb
/-- a plan that can be -/
structure CanP (np : Nat) (g : Nat → Int) (gap : Int) (f : Nat → TrainD) (p : Nat → RowD) : Prop where
  n : ∀ j, j < np → (p j).n = (f j).nl
  ready : ∀ i, i < np → ∀ k, k < (f i).nl → readyOf f p i k ≤ (p i).s k
  track : ∀ i, i < np → ∀ k, k < (f i).nl → ∀ j, j < np → ∀ m, m < (f j).nl → i ≠ j → trackOf (f i) k = trackOf (f j) m → (p j).s m < (p i).s k ∨ ((p j).s m = (p i).s k ∧ j < i) → freeH f p gap j m ≤ (p i).s k
  room : ∀ i, i < np → ∀ k, k < (f i).nl → (countAll f p i k np : Int) ≤ g ((f i).leg k).to.toNat
theorem canP_of {nt : Nat} {g : Nat → Int} {gap : Int} {np : Nat} {f : Nat → TrainD} {p : Nat → RowD} (h : clashOf nt g gap np f np p = (0, 0, 0, 0)) : CanP np g gap f p := by
  have hok := clashOf_ok h
  have hS := (rightP_of hok.2).row
  unfold clashOf at h
  rw [if_pos hok] at h
  cases e1 : first2 np (fun i => (f i).nl) (fun i k => decide (readyOf f p i k ≤ (p i).s k)) with
  | some x => rw [e1] at h; exact absurd (congrArg Prod.fst h) (by simp)
  | none =>
    rw [e1] at h
    dsimp only at h
    cases e2 : first2 np (fun i => (f i).nl) (fun i k => (withOf gap np f p i k).isNone) with
    | some x => rw [e2] at h; exact absurd (congrArg Prod.fst h) (by simp)
    | none =>
      rw [e2] at h
      dsimp only at h
      cases e3 : first2 np (fun i => (f i).nl) (fun i k => !fullB g np f p i k) with
      | some x => rw [e3] at h; exact absurd (congrArg Prod.fst h) (by simp)
      | none =>
        refine ⟨hS, fun i hi k hk => of_decide_eq_true (first2_allO e1 i hi k hk), fun i hi k hk j hj m hm hne htr hlt => ?_, fun i hi k hk => ?_⟩
        · have h1 := firstBad_allO (Option.isNone_iff_eq_none.1 (first2_allO e2 i hi k hk)) j hj
          have h2 := firstBad_allO (Option.isNone_iff_eq_none.1 h1) m hm
          have h3 : onB gap f p i k j m = false := by simpa using h2
          unfold onB at h3
          rw [decide_eq_false_iff_not] at h3
          refine Int.not_lt.1 fun hc => h3 ⟨hne, htr, by omega, by omega, hc⟩
        · have h1 := first2_allO e3 i hi k hk
          have h2 : fullB g np f p i k = false := by simpa using h1
          unfold fullB at h2
          rw [decide_eq_false_iff_not] at h2
          omega
section
variable {len np : Nat} {g : Nat → Int} {gap : Int} {f : Nat → TrainD} {p : Nat → RowD}
theorem CanP.asc (hR : RightL len np f) (h : CanP np g gap f p) {i k : Nat} (hi : i < np) (hk : k + 1 < (f i).nl) : (p i).s k < (p i).s (k + 1) := by
  have h1 := h.ready i hi (k + 1) hk
  have h2 := (hR.train i hi).leg k (by omega)
  have h3 := (hR.train i hi).leg (k + 1) hk
  simp only [readyOf] at h1
  omega
/-- those picked begin no later than what is left -/
structure Pre (np : Nat) (p : Nat → RowD) (nx : Nat → Nat) : Prop where
  le : ∀ j, j < np → nx j ≤ (p j).n
  lt : ∀ j, j < np → ∀ m, m < nx j → ∀ i, i < np → nx i < (p i).n → (p j).s m < (p i).s (nx i) ∨ ((p j).s m = (p i).s (nx i) ∧ j ≤ i)
/-- b's next leg begins first -/
def Least (np : Nat) (p : Nat → RowD) (nx : Nat → Nat) (b : Nat) : Prop := b < np ∧ nx b < (p b).n ∧ ∀ i, i < np → nx i < (p i).n → (p b).s (nx b) < (p i).s (nx i) ∨ ((p b).s (nx b) = (p i).s (nx i) ∧ b ≤ i)
theorem bump_self (nx : Nat → Nat) (b : Nat) : bump nx b b = nx b + 1 := by simp [bump]
theorem bump_ne {nx : Nat → Nat} {b j : Nat} (h : j ≠ b) : bump nx b j = nx j := by simp [bump, h]
theorem Pre.bump (hR : RightL len np f) (hC : CanP np g gap f p) {nx : Nat → Nat} (h : Pre np p nx) {b : Nat} (hb : Least np p nx b) : Pre np p (bump nx b) := by
  obtain ⟨hb0, hb1, hb2⟩ := hb
  refine ⟨fun j hj => ?_, fun j hj m hm i hi hn => ?_⟩
  · by_cases e : j = b
    · subst e; rw [bump_self]; omega
    · rw [bump_ne e]; exact h.le j hj
  · have hold : ∀ i', i' < np → nx i' < (p i').n → (p j).s m < (p i').s (nx i') ∨ ((p j).s m = (p i').s (nx i') ∧ j ≤ i') := fun i' hi' hn' => by
      by_cases e : j = b
      · subst e
        rw [bump_self] at hm
        rcases Nat.lt_succ_iff_lt_or_eq.1 hm with h1 | h1
        · exact h.lt j hj m h1 i' hi' hn'
        · rw [h1]; exact hb2 i' hi' hn'
      · rw [bump_ne e] at hm
        exact h.lt j hj m hm i' hi' hn'
    by_cases e : i = b
    · subst e
      rw [bump_self] at hn ⊢
      have ha := hC.asc hR hi (k := nx i) (by rw [← hC.n i hi]; exact hn)
      have := hold i hi (by omega)
      left; omega
    · rw [bump_ne e] at hn ⊢
      exact hold i hi hn
/-- a run that follows, no later anywhere -/
structure Soon (np : Nat) (p : Nat → RowD) (nx : Nat → Nat) (Q : Nat → RowD) (last : Int) : Prop where
  n : ∀ j, j < np → (Q j).n = nx j
  le : ∀ j, j < np → ∀ m, m < nx j → (Q j).s m ≤ (p j).s m
  last : ∀ i, i < np → nx i < (p i).n → last ≤ (p i).s (nx i)
theorem first_ex {P : Nat → RowD} {s : Int} : ∀ (d : Nat) (low t0 : Int), t0 = low + d → ¬ fullAt np g f P s t0 → ∃ t, IsFirst np g f P s low t ∧ t ≤ t0
  | 0, low, t0, e, h => ⟨t0, ⟨by omega, h, fun u h1 h2 => by omega⟩, Int.le_refl _⟩
  | d + 1, low, t0, e, h => by
    by_cases hl : fullAt np g f P s low
    · obtain ⟨t, ⟨h1, h2, h3⟩, h4⟩ := first_ex d (low + 1) t0 (by omega) h
      refine ⟨t, ⟨by omega, h2, fun u hu hu2 => ?_⟩, h4⟩
      by_cases e2 : u = low
      · rw [e2]; exact hl
      · exact h3 u (by omega) hu2
    · exact ⟨low, ⟨Int.le_refl _, hl, fun u h1 h2 => by omega⟩, by omega⟩
theorem countRow_mono (f : Nat → TrainD) (P : Nat → RowD) (i k j : Nat) : ∀ (d m : Nat), countRow f P i k j m ≤ countRow f P i k j (m + d)
  | 0, m => Nat.le_refl _
  | d + 1, m => by
    have := countRow_mono f P i k j d m
    rw [show m + (d + 1) = (m + d) + 1 by omega]
    simp only [countRow]; omega
theorem there_row {Q : Nat → RowD} {s t : Int} {b k j : Nat} : ∀ n, (∀ m, m < n → hereB f Q s t j m = true → skipB f p b k j m = false) → thereRow f Q s t j n ≤ countRow f p b k j n
  | 0, _ => Nat.le_refl _
  | n + 1, h => by
    have h0 := there_row (Q := Q) (s := s) (t := t) (b := b) (k := k) (j := j) n (fun m hm => h m (by omega))
    simp only [thereRow, countRow]
    by_cases e : hereB f Q s t j n = true
    · rw [if_pos e, h n (by omega) e]; simp; omega
    · rw [if_neg e]; omega
theorem there_all {Q : Nat → RowD} {s t : Int} {b : Nat} {nx : Nat → Nat} (hn : ∀ j, j < np → (Q j).n = nx j) (hle : ∀ j, j < np → nx j ≤ (f j).nl) (hbk : nx b < (f b).nl) (hself : skipB f p b (nx b) b (nx b) = false) (h : ∀ j, j < np → ∀ m, m < nx j → hereB f Q s t j m = true → skipB f p b (nx b) j m = false) : ∀ n, n ≤ np → thereAll f Q s t n + (if b < n then 1 else 0) ≤ countAll f p b (nx b) n
  | 0, _ => by simp [thereAll, countAll]
  | n + 1, hnn => by
    have h0 := there_all hn hle hbk hself h n (by omega)
    have h1 := there_row (Q := Q) (s := s) (t := t) (b := b) (k := nx b) (j := n) (nx n) (h n (by omega))
    have h2 := countRow_mono f p b (nx b) n ((f n).nl - nx n) (nx n)
    have h3 := hle n (by omega)
    rw [show nx n + ((f n).nl - nx n) = (f n).nl by omega] at h2
    simp only [thereAll, countAll]
    rw [hn n (by omega)]
    by_cases e : b = n
    · subst e
      have h4 : countRow f p b (nx b) b (nx b + 1) = countRow f p b (nx b) b (nx b) + 1 := by simp only [countRow]; rw [hself]; simp
      have h5 := countRow_mono f p b (nx b) b ((f b).nl - (nx b + 1)) (nx b + 1)
      rw [show nx b + 1 + ((f b).nl - (nx b + 1)) = (f b).nl by omega] at h5
      rw [if_neg (by omega)] at h0
      rw [if_pos (by omega)]
      omega
    · by_cases e2 : b < n
      · rw [if_pos e2] at h0; rw [if_pos (by omega)]; omega
      · rw [if_neg e2] at h0; rw [if_neg (by omega)]; omega
/-- the next leg of the order can be placed no later than the plan has it -/
theorem soon_first (_ : RightL len np f) (hC : CanP np g gap f p) {nx : Nat → Nat} {Q : Nat → RowD} {last : Int} (hP : Pre np p nx) (hS : Soon np p nx Q last) {b : Nat} (hb : Least np p nx b) :
    ∃ t, IsFirst np g f Q (stOf f Q b) (lowOf np f Q gap last b) t ∧ t ≤ (p b).s (nx b) := by
  obtain ⟨hb0, hb1, hb2⟩ := hb
  have hbl : nx b < (f b).nl := by rw [← hC.n b hb0]; exact hb1
  have hQn := hS.n b hb0
  have hrd : readyOf f Q b (nx b) ≤ (p b).s (nx b) := by
    have h1 := hC.ready b hb0 (nx b) hbl
    cases e : nx b with
    | zero => rw [e] at h1; exact h1
    | succ k =>
      rw [e] at h1
      have h2 := hS.le b hb0 k (by omega)
      simp only [readyOf] at h1 ⊢
      omega
  have hlow : lowOf np f Q gap last b ≤ (p b).s (nx b) := by
    unfold lowOf
    obtain ⟨_, _, h3⟩ := trackAll_is (f := f) (P := Q) (gap := gap) (i := b) (k := (Q b).n) (a := maxZ (readyOf f Q b (Q b).n) last) np
    rcases h3 with h3 | ⟨j, m, hj, hm, hne, htr, h3⟩
    · rw [h3, hQn]
      have := hS.last b hb0 hb1
      unfold maxZ; split <;> omega
    · rw [h3]
      rw [hS.n j hj] at hm
      rw [hQn] at htr
      have h4 := hP.lt j hj m hm b hb0 hb1
      have h5 := hC.track b hb0 (nx b) hbl j hj m (by have := hP.le j hj; rw [hC.n j hj] at this; omega) (fun e => hne e.symm) htr.symm (by omega)
      have h6 := hS.le j hj m hm
      unfold freeH at h5 ⊢
      omega
  have hrow : ∀ j, j < np → nx j ≤ (f j).nl := fun j hj => by rw [← hC.n j hj]; exact hP.le j hj
  have hself : skipB f p b (nx b) b (nx b) = false := by
    unfold skipB
    rw [decide_eq_false_iff_not]
    rintro (h | h | h | h)
    · exact h rfl
    · omega
    · omega
    · rcases h.2 with h | h
      · exact h rfl
      · exact h rfl
  have hst : stOf f Q b = ((f b).leg (nx b)).to := by unfold stOf; rw [hQn]
  have hcnt := there_all (p := p) (Q := Q) (s := stOf f Q b) (t := (p b).s (nx b)) (b := b) hS.n hrow hbl hself (fun j hj m hm hh => by
    unfold hereB at hh
    rw [Bool.and_eq_true] at hh
    have hto := of_decide_eq_true hh.1
    have h4 := hP.lt j hj m hm b hb0 hb1
    have hlv : (p b).s (nx b) ≤ leavesOf f p j m := by
      have hl2 := hh.2
      unfold leaveO at hl2
      rw [hS.n j hj] at hl2
      unfold leavesOf
      rw [hC.n j hj]
      by_cases e1 : m + 1 < nx j
      · rw [if_pos e1] at hl2
        have h5 := of_decide_eq_true hl2
        have h6 := hS.le j hj (m + 1) e1
        rw [if_pos (by have := hrow j hj; omega)]
        omega
      · rw [if_neg e1] at hl2
        by_cases e2 : m + 1 < (f j).nl
        · rw [if_pos e2]
          have e3 : m + 1 = nx j := by omega
          have := hb2 j hj (by rw [hC.n j hj]; omega)
          rw [e3]
          omega
        · rw [if_neg e2] at hl2
          rw [if_neg e2]
          have h5 := of_decide_eq_true hl2
          have h6 := hS.le j hj m hm
          omega
    unfold skipB
    rw [decide_eq_false_iff_not]
    rintro (h | h | h | h)
    · exact h (by rw [hto, hst])
    · omega
    · omega
    · omega) np (Nat.le_refl _)
  rw [if_pos hb0] at hcnt
  have hroom := hC.room b hb0 (nx b) hbl
  refine first_ex ((p b).s (nx b) - lowOf np f Q gap last b).toNat _ _ (by omega) (fun hfull => ?_)
  unfold fullAt at hfull
  rw [hst] at hfull hcnt
  omega
theorem Soon.more (hR : RightL len np f) (hC : CanP np g gap f p) {nx : Nat → Nat} {Q : Nat → RowD} {last : Int} (hS : Soon np p nx Q last) {b : Nat} (hb : Least np p nx b) {t : Int} (ht : t ≤ (p b).s (nx b)) : Soon np p (bump nx b) (moreP Q b t) t := by
  obtain ⟨hb0, hb1, hb2⟩ := hb
  have hQn := hS.n b hb0
  refine ⟨fun j hj => ?_, fun j hj m hm => ?_, fun i hi hn => ?_⟩
  · by_cases e : j = b
    · subst e; rw [moreP_n, bump_self, hQn]
    · rw [moreP_other e, bump_ne e]; exact hS.n j hj
  · by_cases e : j = b
    · subst e
      rw [bump_self] at hm
      rcases Nat.lt_succ_iff_lt_or_eq.1 hm with h1 | h1
      · rw [moreP_old (by omega)]; exact hS.le j hj m h1
      · rw [h1, ← hQn, moreP_new, hQn]; exact ht
    · rw [moreP_other e]
      rw [bump_ne e] at hm
      exact hS.le j hj m hm
  · by_cases e : i = b
    · subst e
      rw [bump_self] at hn ⊢
      have := hC.asc hR hi (k := nx i) (by rw [← hC.n i hi]; exact hn)
      omega
    · rw [bump_ne e] at hn ⊢
      have := hb2 i hi hn
      omega
theorem rowSumQ_ge {P : Nat → RowD} : ∀ n, (∀ i, i < n → (f i).nl ≤ (P i).n) → legSum f n ≤ rowSumQ P n
  | 0, _ => Nat.le_refl _
  | n + 1, h => by
    have h0 := rowSumQ_ge (P := P) n (fun i hi => h i (by omega))
    have h1 := h n (by omega)
    simp only [legSum, rowSumQ]; omega
/-- the run of the plan's own order -/
theorem soon_run (hR : RightL len np f) (hG : RightG len g gap np f) (hC : CanP np g gap f p) (o : Nat → Int) (ho : ∀ n, n < legSum f np → o n = bestI p (nxAt p np n) np) : ∀ n, n ≤ legSum f np →
    (runP np g f gap o n).code = 0 ∧ RunOk len np g f gap (runP np g f gap o n) n ∧ Pre np p (nxAt p np n) ∧ Soon np p (nxAt p np n) (runP np g f gap o n).P (runP np g f gap o n).last
  | 0, _ => ⟨rfl, runP_zero np g f gap o len, ⟨fun _ _ => Nat.zero_le _, fun _ _ m hm => absurd hm (Nat.not_lt_zero m)⟩, ⟨fun _ _ => rfl, fun _ _ m hm => absurd hm (Nat.not_lt_zero m), fun i hi hn => by
      have h1 := hC.ready i hi 0 (by rw [← hC.n i hi]; exact hn)
      have h2 := (hR.train i hi).leg 0 (by rw [← hC.n i hi]; exact hn)
      have h3 := (hR.train i hi).r0
      simp only [readyOf] at h1
      show (0 : Int) ≤ (p i).s 0
      omega⟩⟩
  | n + 1, hn => by
    obtain ⟨hc, hok, hP, hS⟩ := soon_run hR hG hC o ho n (by omega)
    have hon := ho n (by omega)
    have hb0 : 0 ≤ bestI p (nxAt p np n) np := by
      refine Int.not_lt.1 fun hlt => ?_
      have h1 := bestI_none p (nxAt p np n) np hlt
      have h2 := rowSumQ_ge (f := f) (P := (runP np g f gap o n).P) np (fun i hi => by rw [hS.n i hi, ← hC.n i hi]; exact h1 i hi)
      have h3 := hok.sum
      omega
    obtain ⟨b, hbe⟩ : ∃ b : Nat, bestI p (nxAt p np n) np = (b : Int) := ⟨(bestI p (nxAt p np n) np).toNat, by omega⟩
    have hbl := (bestI_lt p (nxAt p np n) np).1
    obtain ⟨hm1, hm2⟩ := bestI_min p (nxAt p np n) np hb0
    rw [hbe, Int.toNat_natCast] at hm1 hm2
    have hbn : b < np := by omega
    have hL : Least np p (nxAt p np n) b := ⟨hbn, hm1, hm2⟩
    obtain ⟨t, hf, ht⟩ := soon_first hR hC hP hS hL
    have hlt : ((runP np g f gap o n).P b).n < (f b).nl := by rw [hS.n b hbn, ← hC.n b hbn]; exact hm1
    have hlegs := hG.legs
    obtain ⟨hstep, hok'⟩ := runOk_step hR hG hok hc hbn hlt hf (by omega)
    have hrun : runP np g f gap o (n + 1) = ⟨0, 0, moreP (runP np g f gap o n).P b t, t⟩ := by
      show stepP np g f gap (o n) n (runP np g f gap o n) = _
      rw [hon, hbe]; exact hstep
    have hnx : nxAt p np (n + 1) = bump (nxAt p np n) b := by
      show bump (nxAt p np n) (bestI p (nxAt p np n) np).toNat = _
      rw [hbe, Int.toNat_natCast]
    rw [hrun, hnx]
    exact ⟨rfl, hok', hP.bump hR hC hL, hS.more hR hC hL ht⟩
end
end Go.Proofs.YtelickcfodcmaaaGreatDoor

namespace Go.Proofs.YtelickcfodcmaaaGreatDoor
open Go.RowKit

theorem out_at (P : Nat → RowD) (m : Nat) : ∀ k n, n < k → (outAt P m k)[n]? = some (bestI P (nxAt P m n) m).toNat
  | 0, n, h => absurd h (Nat.not_lt_zero n)
  | k + 1, n, h => by
    rw [outAt]
    by_cases e : n < k
    · rw [List.getElem?_append_left (by rw [outAt_len]; exact e)]
      exact out_at P m k n e
    · obtain rfl : n = k := by omega
      rw [List.getElem?_append_right (by rw [outAt_len]; exact Nat.le_refl _), outAt_len, Nat.sub_self]
      rfl
/-- an order, as numbers -/
def ordI (L : List Nat) : List Int := L.map fun n : Nat => (n : Int)
theorem ordI_len (L : List Nat) : (ordI L).length = L.length := by simp [ordI]
theorem natCells_ord (L : List Nat) : natCells L = intCells (ordI L) := by simp [natCells, intCells, ordI]
theorem lateOf_mono {t : TrainD} (h : RightT t) {e e' : Int} (he : e ≤ e') : lateOf t e ≤ lateOf t e' := by
  have hw := h.w0
  unfold lateOf
  by_cases h1 : e ≤ t.due
  · rw [if_pos h1]
    by_cases h2 : e' ≤ t.due
    · rw [if_pos h2]; exact Int.le_refl _
    · rw [if_neg h2]; exact Int.mul_nonneg (by omega) (by omega)
  · rw [if_neg h1, if_neg (by omega)]
    exact Int.mul_le_mul_of_nonneg_left (by omega) (by omega)
section
variable {len np : Nat} {g : Nat → Int} {f : Nat → TrainD} {gap : Int} {p : Nat → RowD}
theorem costP_mono {Q : Nat → RowD} (hR : RightL len np f) (h : ∀ j, j < np → endP f Q j ≤ endP f p j) : ∀ k, k ≤ np → costP f Q k ≤ costP f p k
  | 0, _ => Int.le_refl _
  | k + 1, hk => by
    have h1 := costP_mono hR h k (by omega)
    have h2 := lateOf_mono (hR.train k (by omega)) (h k (by omega))
    simp only [costP]; omega
theorem order_len (h : clashOf len g gap np f np p = (0, 0, 0, 0)) : (ordI (orderOf len g gap np f np p)).length ≤ 10 := by
  have hC := canP_of h
  rw [ordI_len]
  unfold orderOf
  rw [if_pos h, outAt_len, ← rowSum_legs np hC.n]
  exact (rightG_of (faultOf_snd (clashOf_ok h).1)).legs
/-- the plan of a plan's own order -/
noncomputable def ownPl (len : Nat) (g : Nat → Int) (gap : Int) (np : Nat) (f : Nat → TrainD) (n : Nat) (p : Nat → RowD) : StP := placeSt len g gap np f (ordI (orderOf len g gap np f n p)).length (gI (ordI (orderOf len g gap np f n p)))
theorem sooner (h : clashOf len g gap np f np p = (0, 0, 0, 0)) :
    (ownPl len g gap np f np p).code = 0 ∧ (∀ j, j < np → ((ownPl len g gap np f np p).P j).n = (p j).n ∧ ∀ m, m < (p j).n → ((ownPl len g gap np f np p).P j).s m ≤ (p j).s m) ∧ costOf len g gap np f np (ownPl len g gap np f np p).P ≤ costOf len g gap np f np p := by
  obtain ⟨hF1, hS⟩ := clashOf_ok h
  have hF := faultOf_snd hF1
  have hR := rightL_of hF
  have hG := rightG_of hF
  have hC := canP_of h
  have hsum : legSum f np = rowSum p np := rowSum_legs np hC.n
  have hL : orderOf len g gap np f np p = outAt p np (legSum f np) := by unfold orderOf; rw [if_pos h, hsum]
  have hlen : (ordI (orderOf len g gap np f np p)).length = legSum f np := by rw [ordI_len, hL, outAt_len]
  have ho : ∀ n, n < legSum f np → gI (ordI (orderOf len g gap np f np p)) n = bestI p (nxAt p np n) np := fun n hn => by
    have h1 := out_at p np (legSum f np) n hn
    have h2 := best_there (P := p) (n := np) (k := n) (by omega)
    unfold gI ordI
    rw [hL, List.getD_eq_getElem?_getD, List.getElem?_map, h1]
    show (((bestI p (nxAt p np n) np).toNat : Nat) : Int) = _
    omega
  have hno : legSum f np ≤ 10 := hG.legs
  obtain ⟨hc, hok, _, hSo⟩ := soon_run hR hG hC _ ho (legSum f np) (Nat.le_refl _)
  have hfull := rows_full hok.part.le hok.sum
  have e : ownPl len g gap np f np p = runP np g f gap (gI (ordI (orderOf len g gap np f np p))) (legSum f np) := by
    unfold ownPl placeSt
    rw [hlen, if_pos ⟨by rw [hF], hno⟩, if_neg (by simp [hc]), if_pos rfl]
  have hcode : (ownPl len g gap np f np p).code = 0 := by rw [e]; exact hc
  have hrow : ∀ j, j < np → ((ownPl len g gap np f np p).P j).n = (p j).n ∧ ∀ m, m < (p j).n → ((ownPl len g gap np f np p).P j).s m ≤ (p j).s m := fun j hj => by
    rw [e]
    refine ⟨by rw [hfull j hj, hC.n j hj], fun m hm => hSo.le j hj m ?_⟩
    rw [← hSo.n j hj, hfull j hj, ← hC.n j hj]; exact hm
  refine ⟨hcode, hrow, ?_⟩
  have hcl := placed_clash hcode
  unfold costOf
  rw [if_pos h]
  have e2 : clashOf len g gap np f np (ownPl len g gap np f np p).P = (0, 0, 0, 0) := hcl
  rw [if_pos e2]
  refine costP_mono hR (fun j hj => ?_) np (Nat.le_refl _)
  have h1 := (hrow j hj).2 ((f j).nl - 1) (by have := hR.pos j hj; rw [hC.n j hj]; omega)
  unfold endP; omega
end
end Go.Proofs.YtelickcfodcmaaaGreatDoor

namespace Go.Proofs.YtelickcfodcmaaaGreatDoor
open Go.Shelf

def Tryz.sortHold_ren : Go.Shelf.Ren := ⟨fun | 6 => 34 | 15 => 66 | 14 => 65 | 28 => 103 | 29 => 104 | 20 => 95 | 21 => 96 | 22 => 97 | 23 => 98 | 24 => 99 | 25 => 100 | 26 => 101 | 27 => 102 | 46 => 138 | 47 => 139 | 48 => 140 | 49 => 141 | 50 => 142 | 57 => 168 | n => n, fun | 22 => 76 | 24 => 78 | 25 => 82 | 3 => 3 | 39 => 114 | 0 => 0 | 53 => 137 | 55 => 53 | 4 => 4 | 46 => 154 | 45 => 153 | 50 => 116 | 5 => 5 | 9 => 9 | 66 => 201 | 70 => 204 | 76 => 230 | 77 => 231 | n => n, fun | n => n⟩
theorem Tryz.sortHold : Go.Proofs.SlLaysF0.n6 Tryz.prog Tryz.sortHold_ren := {
  mixed := by kernel_rfl
  f6 := ⟨Tryz.f34.name, by decide, Tryz.func34.trans (congrArg some (by kernel_rfl))⟩
  f14 := ⟨Tryz.f65.name, by decide, Tryz.func65.trans (congrArg some (by kernel_rfl))⟩
  f15 := Tryz.func66.trans (congrArg some (by kernel_rfl))
  f20 := ⟨Tryz.f95.name, by decide, Tryz.func95.trans (congrArg some (by kernel_rfl))⟩
  f21 := ⟨Tryz.f96.name, by decide, Tryz.func96.trans (congrArg some (by kernel_rfl))⟩
  f22 := ⟨Tryz.f97.name, by decide, Tryz.func97.trans (congrArg some (by kernel_rfl))⟩
  f23 := ⟨Tryz.f98.name, by decide, Tryz.func98.trans (congrArg some (by kernel_rfl))⟩
  f24 := ⟨Tryz.f99.name, by decide, Tryz.func99.trans (congrArg some (by kernel_rfl))⟩
  f25 := ⟨Tryz.f100.name, by decide, Tryz.func100.trans (congrArg some (by kernel_rfl))⟩
  f26 := ⟨Tryz.f101.name, by decide, Tryz.func101.trans (congrArg some (by kernel_rfl))⟩
  f27 := ⟨Tryz.f102.name, by decide, Tryz.func102.trans (congrArg some (by kernel_rfl))⟩
  f28 := Tryz.func103.trans (congrArg some (by kernel_rfl))
  f29 := Tryz.func104.trans (congrArg some (by kernel_rfl))
  f46 := ⟨Tryz.f138.name, by decide, Tryz.func138.trans (congrArg some (by kernel_rfl))⟩
  f47 := Tryz.func139.trans (congrArg some (by kernel_rfl))
  f48 := Tryz.func140.trans (congrArg some (by kernel_rfl))
  f49 := ⟨Tryz.f141.name, by decide, Tryz.func141.trans (congrArg some (by kernel_rfl))⟩
  f50 := ⟨Tryz.f142.name, by decide, Tryz.func142.trans (congrArg some (by kernel_rfl))⟩
  f57 := ⟨Tryz.f168.name, by decide, Tryz.func168.trans (congrArg some (by kernel_rfl))⟩
  t0 := Tryz.underlying0
  a0 := Tryz.isAgg0
  z0 := Tryz.sizeOf0
  v0 := Tryz.zeroValue0
  t3 := Tryz.underlying3
  a3 := Tryz.isAgg3
  z3 := Tryz.sizeOf3
  v3 := Tryz.zeroValue3
  t4 := Tryz.underlying4
  a4 := Tryz.isAgg4
  z4 := Tryz.sizeOf4
  v4 := Tryz.zeroValue4
  t5 := Tryz.underlying5
  a5 := Tryz.isAgg5
  z5 := Tryz.sizeOf5
  v5 := Tryz.zeroValue5
  t9 := Tryz.underlying9
  a9 := Tryz.isAgg9
  z9 := Tryz.sizeOf9
  v9 := Tryz.zeroValue9
  t22 := Tryz.underlying76
  a22 := Tryz.isAgg76
  z22 := Tryz.sizeOf76
  v22 := Tryz.zeroValue76
  t25 := Tryz.underlying82
  a25 := Tryz.isAgg82
  z25 := Tryz.sizeOf82
  v25 := Tryz.zeroValue82
  t39 := Tryz.underlying114
  a39 := Tryz.isAgg114
  z39 := Tryz.sizeOf114
  v39 := Tryz.zeroValue114
  t45 := Tryz.underlying153
  a45 := Tryz.isAgg153
  z45 := Tryz.sizeOf153
  v45 := Tryz.zeroValue153
  t46 := Tryz.underlying154
  a46 := Tryz.isAgg154
  z46 := Tryz.sizeOf154
  v46 := Tryz.zeroValue154
  t50 := Tryz.underlying116
  a50 := Tryz.isAgg116
  z50 := Tryz.sizeOf116
  v50 := Tryz.zeroValue116
  t53 := Tryz.underlying137
  a53 := Tryz.isAgg137
  z53 := Tryz.sizeOf137
  v53 := Tryz.zeroValue137
  t55 := Tryz.underlying53
  a55 := Tryz.isAgg53
  z55 := Tryz.sizeOf53
  v55 := Tryz.zeroValue53
  t66 := Tryz.underlying201
  a66 := Tryz.isAgg201
  z66 := Tryz.sizeOf201
  v66 := Tryz.zeroValue201
  t70 := Tryz.underlying204
  a70 := Tryz.isAgg204
  z70 := Tryz.sizeOf204
  v70 := Tryz.zeroValue204
  t76 := Tryz.underlying230
  a76 := Tryz.isAgg230
  z76 := Tryz.sizeOf230
  v76 := Tryz.zeroValue230
  t77 := Tryz.underlying231
  a77 := Tryz.isAgg231
  z77 := Tryz.sizeOf231
  v77 := Tryz.zeroValue231 }
def Tryz.cmpInt_ren : Go.Shelf.Ren := ⟨fun | 5 => 37 | 7 => 67 | n => n, fun | 22 => 3 | 3 => 3 | 4 => 4 | n => n, fun | n => n⟩
theorem Tryz.cmpInt : Go.Proofs.SlLaysC2.n5 Tryz.prog Tryz.cmpInt_ren := {
  mixed := by kernel_rfl
  f5 := ⟨Tryz.f37.name, by decide, Tryz.func37.trans (congrArg some (by kernel_rfl))⟩
  f7 := ⟨Tryz.f67.name, by decide, Tryz.func67.trans (congrArg some (by kernel_rfl))⟩
  t3 := Tryz.underlying3
  a3 := Tryz.isAgg3
  z3 := Tryz.sizeOf3
  v3 := Tryz.zeroValue3
  t4 := Tryz.underlying4
  a4 := Tryz.isAgg4
  z4 := Tryz.sizeOf4
  v4 := Tryz.zeroValue4
  t22 := Tryz.underlying3
  a22 := Tryz.isAgg3
  z22 := Tryz.sizeOf3
  v22 := Tryz.zeroValue3 }
end Go.Proofs.YtelickcfodcmaaaGreatDoor

namespace Go.Proofs.YtelickcfodcmaaaGreatDoor
open Go.RowKit Go.Shelf Go.Lib Go.Sort

instance : Inhabited HoldD := ⟨⟨0, 0, 0⟩⟩
def encH (x : HoldD) : List Value := [.int .i64 x.tr, .int .i64 x.frm, .int .i64 x.free]
/-- the first that is not 0 -/
def orI (x y : Int) : Int := if x = 0 then y else x
def cfH (x y : HoldD) : Int := orI (Lib.compareInt x.frm y.frm) (Lib.compareInt x.tr y.tr)
theorem cfH_lt (x y : HoldD) : ltOf cfH x y = ltH x y := by
  unfold ltOf cfH orI ltH Lib.compareInt
  rcases Int.lt_trichotomy x.frm y.frm with h | h | h
  · have h1 : ¬ y.frm < x.frm := by omega
    simp [h]
  · rcases Nat.lt_trichotomy x.tr y.tr with k | k | k
    · have h1 : (x.tr : Int) < y.tr := by omega
      simp [h, k]
    · simp [h, k]
    · have h1 : (y.tr : Int) < x.tr := by omega
      have h2 : ¬ (x.tr : Int) < y.tr := by omega
      have h3 : ¬ x.tr < y.tr := by omega
      simp [h, h3, k]
  · have h1 : ¬ x.frm < y.frm := by omega
    have h2 : ¬ x.frm = y.frm := by omega
    simp [h, h1, h2]
theorem swoH : SWO (ltOf cfH) where
  irrefl x := by rw [cfH_lt]; simp [ltH]
  trans x y z h1 h2 := by rw [cfH_lt] at *; simp [ltH] at *; omega
  ntrans x y z h1 h2 := by rw [cfH_lt] at *; simp [ltH] at *; omega

theorem orInt_any (b cap : Nat) (x y : Int) (w : World) (h0 : w.cell? ⟨b, 0, none⟩ = some (.int .i64 x)) (h1 : w.cell? ⟨b, 1, none⟩ = some (.int .i64 y)) :
    Calls Tryz.prog 36 #[.slice (some ⟨b, 0, none⟩) 2 cap] w fun e w' => e = .returned (.int .i64 (orI x y)) ∧ w' = w := by
  go_enter Tryz.func36, Tryz.ntmps36
  go_wp2
  go_loopw [8] (fun ii wr => ∃ (k : Nat), k ≤ 2 ∧ ii = .int .i64 k ∧ (1 ≤ k → x = 0) ∧ (2 ≤ k → y = 0) ∧ wr = w) (fun ii _ => 2 - (intOf ii).toNat)
  case atStart => exact ⟨0, by omega, rfl, fun h => by omega, fun h => by omega, rfl⟩
  case round =>
    obtain ⟨k, hk, rfl, hx, hy, rfl⟩ := hrel
    match k, hk with
    | 0, _ =>
      by_cases e : x = 0
      · subst e
        go_wp2
        go_roundw
        case rel => exact ⟨1, by omega, by go_num, fun _ => (by first | rfl | trivial), fun h => by omega, (by first | rfl | trivial)⟩
        case measure => simp [intOf]
      · have e1 : orI x y = x := if_neg e
        have e2 : (x != 0) = true := by simpa using e
        go_wp2
        go_ret
        exact ⟨by rw [e1]; rfl, rfl⟩
    | 1, _ =>
      have e1 : orI x y = y := if_pos (hx (by omega))
      by_cases e : y = 0
      · subst e
        go_wp2
        go_roundw
        case rel => exact ⟨2, by omega, by go_num, fun _ => hx (by omega), fun _ => (by first | rfl | trivial), (by first | rfl | trivial)⟩
        case measure => simp [intOf]
      · have e2 : (y != 0) = true := by simpa using e
        go_wp2
        go_ret
        exact ⟨by rw [e1]; rfl, rfl⟩
    | 2, _ =>
      have e1 : orI x y = 0 := (if_pos (hx (by omega))).trans (hy (by omega))
      go_wp2
      go_ret
      exact ⟨by rw [e1]; rfl, rfl⟩

def Grew (w w' : World) : Prop := ∃ q os, w' = grow (w.drewN q) os
theorem Grew.refl (w : World) : Grew w w := ⟨0, #[], by rw [grow_empty]; rfl⟩
theorem Grew.alloc {w w' : World} (h : Grew w w') (o : Obj) : Grew w (w'.alloc o) := by
  obtain ⟨q, os, rfl⟩ := h
  exact ⟨q, os ++ #[o], by rw [alloc_eq_grow, grow_grow]⟩
theorem Grew.drew {w w' : World} (h : Grew w w') : Grew w w'.drew := by
  obtain ⟨q, os, rfl⟩ := h
  exact ⟨q + 1, os, by rw [drew_grow]; rfl⟩

set_option maxRecDepth 20000 in
set_option maxHeartbeats 4000000 in
theorem closureO_any (x y : HoldD) (w : World) : Calls Tryz.prog 35 #[.agg #[.int .i64 x.tr, .int .i64 x.frm, .int .i64 x.free], .agg #[.int .i64 y.tr, .int .i64 y.frm, .int .i64 y.free]] w fun e w' => e = .returned (.int .i64 (cfH x y)) ∧ Grew w w' := by
  have hcon := fun p q W' => AnyG.cmp_Compare_int Tryz.cmpInt p q W'
  change ∀ p q W', Calls Tryz.prog 37 _ _ _ at hcon
  obtain ⟨y0, y1, y2⟩ := new3 w (.int .i64 x.tr) (.int .i64 x.frm) (.int .i64 x.free) 78
  obtain ⟨z0, z1, z2⟩ := new3 (w.alloc (.cells #[.int .i64 x.tr, .int .i64 x.frm, .int .i64 x.free] 78)) (.int .i64 y.tr) (.int .i64 y.frm) (.int .i64 y.free) 78
  have hb := b1 (w.alloc (.cells #[.int .i64 x.tr, .int .i64 x.frm, .int .i64 x.free] 78)) (.cells #[.int .i64 y.tr, .int .i64 y.frm, .int .i64 y.free] 78)
  replace y0 := cellLater hb y0
  replace y1 := cellLater hb y1
  rw [World.size_alloc] at z0 z1 z2
  have hG : Grew w ((w.alloc (.cells #[.int .i64 x.tr, .int .i64 x.frm, .int .i64 x.free] 78)).alloc (.cells #[.int .i64 y.tr, .int .i64 y.frm, .int .i64 y.free] 78)) := ((Grew.refl w).alloc _).alloc _
  have hcf : cfH x y = orI (Lib.compareInt x.frm y.frm) (Lib.compareInt x.tr y.tr) := rfl
  rw [hcf]
  clear hcf
  generalize hp : Lib.compareInt x.frm y.frm = p
  generalize hq : Lib.compareInt (x.tr : Int) (y.tr : Int) = q
  have hc1 := fun W' => hcon x.frm y.frm W'
  have hc2 := fun W' => hcon x.tr y.tr W'
  rw [hp] at hc1
  rw [hq] at hc2
  clear hp hq hcon
  go_enter Tryz.func35, Tryz.ntmps35
  go_wp2
  refine nameW fun W hW => ?_
  rw [← hW] at hG y0 y1 z0 z1 hb
  clear hW y2 z2
  have hS0 : W.drew.cell? ⟨w.heap.size, 0, none⟩ = some (.int .i64 x.tr) ∧ W.drew.cell? ⟨w.heap.size, 1, none⟩ = some (.int .i64 x.frm) ∧ W.drew.cell? ⟨w.heap.size + 1, 0, none⟩ = some (.int .i64 y.tr) ∧ W.drew.cell? ⟨w.heap.size + 1, 1, none⟩ = some (.int .i64 y.frm) := ⟨y0, y1, z0, z1⟩
  have hS1 : ∀ V : World, Below W.drew.heap.size W.drew V → V.cell? ⟨w.heap.size, 0, none⟩ = some (.int .i64 x.tr) ∧ V.cell? ⟨w.heap.size, 1, none⟩ = some (.int .i64 x.frm) ∧ V.cell? ⟨w.heap.size + 1, 0, none⟩ = some (.int .i64 y.tr) ∧ V.cell? ⟨w.heap.size + 1, 1, none⟩ = some (.int .i64 y.frm) := fun V hV => ⟨cellLater hV hS0.1, cellLater hV hS0.2.1, cellLater hV hS0.2.2.1, cellLater hV hS0.2.2.2⟩
  have hA2 := b1 W.drew (.cells #[.int .i64 p, .int .i64 q] 3)
  obtain ⟨m0, m1⟩ := new2 W.drew (.int .i64 p) (.int .i64 q) 3
  have hOr := fun _ : Unit => orInt_any W.drew.heap.size 2 p q _ m0 m1
  have hS1' : Hid _ := hS1
  have hOr' : Hid _ := hOr
  have hc1' : Hid _ := hc1
  have hc2' : Hid _ := hc2
  clear hS1 hOr hc1 hc2 y0 y1 z0 z1 m0 m1
  refine wp_region_held_drew (S := (fun w' => w'.cell? ⟨w.heap.size, 0, none⟩ = some (.int .i64 x.tr) ∧ w'.cell? ⟨w.heap.size, 1, none⟩ = some (.int .i64 x.frm) ∧ w'.cell? ⟨w.heap.size + 1, 0, none⟩ = some (.int .i64 y.tr) ∧ w'.cell? ⟨w.heap.size + 1, 1, none⟩ = some (.int .i64 y.frm))) (by kernel_rfl) hS0 (fun hHeld => ?_)
  refine wpAnyH_take (i := 0) (oi := { dst := some 5, op := Go.Op.fieldAddr 78 (Go.Operand.tmp 2) 1, type := 0, pos := "l3_best.go:41", after := #[], guard := none }) (v := ?vvo0) rfl (by kernel_rfl) (by kernel_rfl) (by kernel_rfl) (fun _ _ _ h => h) (Or.inl ⟨by rfl, ?hyo0⟩) (by assumption) ?resto0
  case hyo0 =>
    intro w hSw
    (try dsimp only at hSw)
    go_simp
    (try with_reducible rfl)
  simp only [Act.put, List.setIfInBounds_toArray, List.set_cons_zero, List.set_cons_succ]
  refine wpAnyH_take (i := 1) (oi := { dst := some 6, op := Go.Op.load 3 (Go.Operand.tmp 5), type := 3, pos := "l3_best.go:41", after := #[{ on := 0, ground := Go.Ground.data }], guard := none }) (v := ?vvo1) rfl (by kernel_rfl) (by kernel_rfl) (by kernel_rfl) (fun _ _ _ h => h) (Or.inl ⟨by rfl, ?hyo1⟩) (by assumption) ?resto1
  case hyo1 =>
    intro w hSw
    (try dsimp only at hSw)
    go_simp
    (try with_reducible rfl)
  simp only [Act.put, List.setIfInBounds_toArray, List.set_cons_zero, List.set_cons_succ]
  refine wpAnyH_take (i := 2) (oi := { dst := some 7, op := Go.Op.fieldAddr 78 (Go.Operand.tmp 3) 1, type := 0, pos := "l3_best.go:41", after := #[], guard := none }) (v := ?vvo2) rfl (by kernel_rfl) (by kernel_rfl) (by kernel_rfl) (fun _ _ _ h => h) (Or.inl ⟨by rfl, ?hyo2⟩) (by assumption) ?resto2
  case hyo2 =>
    intro w hSw
    (try dsimp only at hSw)
    go_simp
    (try with_reducible rfl)
  simp only [Act.put, List.setIfInBounds_toArray, List.set_cons_zero, List.set_cons_succ]
  refine wpAnyH_take (i := 3) (oi := { dst := some 8, op := Go.Op.load 3 (Go.Operand.tmp 7), type := 3, pos := "l3_best.go:41", after := #[{ on := 2, ground := Go.Ground.data }], guard := none }) (v := ?vvo3) rfl (by kernel_rfl) (by kernel_rfl) (by kernel_rfl) (fun _ _ _ h => h) (Or.inl ⟨by rfl, ?hyo3⟩) (by assumption) ?resto3
  case hyo3 =>
    intro w hSw
    (try dsimp only at hSw)
    go_simp
    (try with_reducible rfl)
  simp only [Act.put, List.setIfInBounds_toArray, List.set_cons_zero, List.set_cons_succ]
  refine wpAnyH_take (i := 5) (oi := { dst := some 10, op := Go.Op.fieldAddr 78 (Go.Operand.tmp 2) 0, type := 0, pos := "l3_best.go:41", after := #[], guard := none }) (v := ?vvo5) rfl (by kernel_rfl) (by kernel_rfl) (by kernel_rfl) (fun _ _ _ h => h) (Or.inl ⟨by rfl, ?hyo5⟩) (by assumption) ?resto5
  case hyo5 =>
    intro w hSw
    (try dsimp only at hSw)
    go_simp
    (try with_reducible rfl)
  simp only [Act.put, List.setIfInBounds_toArray, List.set_cons_zero, List.set_cons_succ]
  refine wpAnyH_take (i := 6) (oi := { dst := some 11, op := Go.Op.load 3 (Go.Operand.tmp 10), type := 3, pos := "l3_best.go:41", after := #[{ on := 5, ground := Go.Ground.data }], guard := none }) (v := ?vvo6) rfl (by kernel_rfl) (by kernel_rfl) (by kernel_rfl) (fun _ _ _ h => h) (Or.inl ⟨by rfl, ?hyo6⟩) (by assumption) ?resto6
  case hyo6 =>
    intro w hSw
    (try dsimp only at hSw)
    go_simp
    (try with_reducible rfl)
  simp only [Act.put, List.setIfInBounds_toArray, List.set_cons_zero, List.set_cons_succ]
  refine wpAnyH_take (i := 7) (oi := { dst := some 12, op := Go.Op.fieldAddr 78 (Go.Operand.tmp 3) 0, type := 0, pos := "l3_best.go:41", after := #[], guard := none }) (v := ?vvo7) rfl (by kernel_rfl) (by kernel_rfl) (by kernel_rfl) (fun _ _ _ h => h) (Or.inl ⟨by rfl, ?hyo7⟩) (by assumption) ?resto7
  case hyo7 =>
    intro w hSw
    (try dsimp only at hSw)
    go_simp
    (try with_reducible rfl)
  simp only [Act.put, List.setIfInBounds_toArray, List.set_cons_zero, List.set_cons_succ]
  refine wpAnyH_take (i := 8) (oi := { dst := some 13, op := Go.Op.load 3 (Go.Operand.tmp 12), type := 3, pos := "l3_best.go:41", after := #[{ on := 7, ground := Go.Ground.data }], guard := none }) (v := ?vvo8) rfl (by kernel_rfl) (by kernel_rfl) (by kernel_rfl) (fun _ _ _ h => h) (Or.inl ⟨by rfl, ?hyo8⟩) (by assumption) ?resto8
  case hyo8 =>
    intro w hSw
    (try dsimp only at hSw)
    go_simp
    (try with_reducible rfl)
  simp only [Act.put, List.setIfInBounds_toArray, List.set_cons_zero, List.set_cons_succ]
  refine wpAnyH_ready (rs := [4]) (by kernel_rfl) (by simp) ?_
  refine AllReadyH.cons (o := { dst := some 9, op := Go.Op.call { callee := Go.Callee.value (Go.Operand.func 37), args := #[Go.Operand.tmp 6, Go.Operand.tmp 8], argTypes := #[3, 3] }, type := 3, pos := "l3_best.go:41", after := #[{ on := 1, ground := Go.Ground.data }, { on := 3, ground := Go.Ground.data }], guard := none }) rfl (fun K hK => ?_) AllReadyH.nil
  go_simp
  refine (hc1'.out _).mono ?_
  rintro _ _ ⟨rfl, rfl⟩
  refine hK.out _ _ hS0 (fun hHeld => ?_)
  clear hK K
  (try simp only [Act.put, List.setIfInBounds_toArray, List.set_cons_zero, List.set_cons_succ])
  refine wpAnyH_ready (rs := [9]) (by kernel_rfl) (by simp) ?_
  refine AllReadyH.cons (o := { dst := some 14, op := Go.Op.call { callee := Go.Callee.value (Go.Operand.func 37), args := #[Go.Operand.tmp 11, Go.Operand.tmp 13], argTypes := #[3, 3] }, type := 3, pos := "l3_best.go:41", after := #[{ on := 6, ground := Go.Ground.data }, { on := 8, ground := Go.Ground.data }, { on := 4, ground := Go.Ground.chain }], guard := none }) rfl (fun K hK => ?_) AllReadyH.nil
  go_simp
  refine (hc2'.out _).mono ?_
  rintro _ _ ⟨rfl, rfl⟩
  refine hK.out _ _ hS0 (fun hHeld => ?_)
  clear hK K
  (try simp only [Act.put, List.setIfInBounds_toArray, List.set_cons_zero, List.set_cons_succ])
  refine wpAnyH_ready (rs := [10]) (by kernel_rfl) (by simp) ?_
  refine AllReadyH.cons (o := { dst := some 15, op := Go.Op.buildSlice 23 2 #[(0, Go.Operand.tmp 9), (1, Go.Operand.tmp 14)], type := 23, pos := "l3_best.go:41", after := #[{ on := 4, ground := Go.Ground.data }, { on := 9, ground := Go.Ground.data }], guard := none }) rfl (fun K hK => ?_) AllReadyH.nil
  go_simp
  have hS2 := hS1'.out _ hA2
  refine hK.out _ _ hS2 (fun hHeld => ?_)
  clear hK K
  (try simp only [Act.put, List.setIfInBounds_toArray, List.set_cons_zero, List.set_cons_succ])
  refine wpAnyH_ready (rs := [11]) (by kernel_rfl) (by simp) ?_
  refine AllReadyH.cons (o := { dst := some 16, op := Go.Op.call { callee := Go.Callee.value (Go.Operand.func 36), args := #[Go.Operand.tmp 15], argTypes := #[23] }, type := 3, pos := "l3_best.go:41", after := #[{ on := 10, ground := Go.Ground.data }, { on := 9, ground := Go.Ground.chain }], guard := none }) rfl (fun K hK => ?_) AllReadyH.nil
  go_simp
  refine (hOr'.out ()).mono ?_
  rintro _ _ ⟨rfl, rfl⟩
  refine hK.out _ _ hS2 (fun hHeld => ?_)
  clear hK K
  (try simp only [Act.put, List.setIfInBounds_toArray, List.set_cons_zero, List.set_cons_succ])
  refine wpAnyH_take (i := 12) (oi := { dst := some 4, op := Go.Op.assign (Go.Operand.tmp 16), type := 3, pos := "l3_best.go:41", after := #[{ on := 11, ground := Go.Ground.data }, { on := 11, ground := Go.Ground.chain }, { on := 0, ground := Go.Ground.phase }, { on := 1, ground := Go.Ground.phase }, { on := 2, ground := Go.Ground.phase }, { on := 3, ground := Go.Ground.phase }, { on := 4, ground := Go.Ground.phase }, { on := 5, ground := Go.Ground.phase }, { on := 6, ground := Go.Ground.phase }, { on := 7, ground := Go.Ground.phase }, { on := 8, ground := Go.Ground.phase }, { on := 9, ground := Go.Ground.phase }, { on := 10, ground := Go.Ground.phase }, { on := 11, ground := Go.Ground.phase }], guard := none }) (v := ?vvo12) rfl (by kernel_rfl) (by kernel_rfl) (by kernel_rfl) (fun _ _ _ h => h) (Or.inl ⟨by rfl, ?hyo12⟩) (by assumption) ?resto12
  case hyo12 =>
    intro w hSw
    (try dsimp only at hSw)
    go_simp
    (try with_reducible rfl)
  simp only [Act.put, List.setIfInBounds_toArray, List.set_cons_zero, List.set_cons_succ]
  refine wpAnyH_done (by kernel_rfl) ?_ _
  go_wp2
  go_ret
  exact ⟨rfl, hG.drew.alloc _⟩
end Go.Proofs.YtelickcfodcmaaaGreatDoor
