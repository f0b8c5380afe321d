/-
  The program's board: what its small questions answer.
  A heap of numbers as plain data: pushing up, pulling down, the least of three.
  The program's heap of ends: its steps.
  The program's heap of ends: one more in it.
  Who is still at a station: how many of a row of ends are not over at a tick, and what is left when the least are taken out.
  The program's board: from when on a station has a track more.
  The program's board: a train comes to a station, a train leaves one.
  The stations of a board: who is there for ever, and until when the others are.
-/
import Derived.Test.YtelickcfodcmaaaGreatDoorSpecN
import Derived.Test.YtelickcfodcmaaaGreatDoorGG
import Derived.Test.YtelickcfodcmaaaGreatDoorBase
import Derived.Test.YtelickcfodcmaaaGreatDoorApp
import Derived.Test.YtelickcfodcmaaaGreatDoorSpecQ
import Derived.BigRegion
import Derived.Test.YtelickcfodcmaaaGreatDoorGF
namespace Go.Proofs.YtelickcfodcmaaaGreatDoor
open Go.RowKit

theorem Tryz.zeroHold (w : World) : (zeroValue 78).run Tryz.prog w = .ok (.agg #[.int .i64 0, .int .i64 0, .int .i64 0]) w := by kernel_rfl
/-- is there a next leg of this train -/
def moreB (np : Nat) (f : Nat → TrainD) (P : Nat → RowD) (i : Int) : Bool := inB i 0 ((np : Int) - 1) && decide ((P i.toNat).n < (f i.toNat).nl)

set_option maxRecDepth 20000 in
set_option maxHeartbeats 4000000 in
theorem hasNext_any (b : Nat) (a : Option Addr) (len cap : Nat) (gap : Int) (a' : Option Addr) (np cap' : Nat) (f : Nat → TrainD) (c : Option Addr) (nc : Nat) (P : Nat → RowD) (last : Int) (i : Int) (w : World) (hR : RightL len np f)
    (hL : L2 w b a len cap gap a' np cap' c nc last) (hT : IsTrains 0 w.heap.size w a' np f) (hP : IsRows 0 w.heap.size w c np P) :
    Calls Tryz.prog 69 #[.pointer (some ⟨b, 0, none⟩), .int .i64 i] w fun e w' => e = .returned (.bool (moreB np f P i)) ∧ ∃ q, w' = w.drewN q := by
  have htr := hR.tr
  have x2 := hL.c2
  have x3 := hL.c3
  have hw1 : IntKind.i64.wrap ((np : Int) - 1) = (np : Int) - 1 := by rw [IntKind.wrap_i64]; omega
  cases hin : inB i 0 ((np : Int) - 1)
  · have e : moreB np f P i = false := by unfold moreB; rw [hin]; rfl
    rw [e]
    have hW := fun W => within_any i 0 ((np : Int) - 1) W
    simp only [hin] at hW
    go_enter Tryz.func69, Tryz.ntmps69
    go_wp2
    go_quiet ((go_at_call 52; exact Calls.quiet_of_same (hW _)))
    go_wp2
    go_ret
    exact ⟨rfl, _, rfl⟩
  · have hin' := hin
    unfold inB at hin'
    simp only [decide_eq_true_eq] at hin'
    obtain ⟨k, rfl⟩ : ∃ k : Nat, i = (k : Int) := ⟨i.toNat, by omega⟩
    have hk : k < np := by omega
    have hk' : (k : Int) < (np : Int) := by omega
    have hk0 : (0 : Int) ≤ (k : Int) := by omega
    obtain ⟨bt, ot, la, lc, rfl, _, hbt, t0, t1, t2, t3, t4, hlg, _⟩ := hT k hk
    obtain ⟨bp, op, lp, lpc, rfl, _, hbp, p0, hin2, _⟩ := hP k hk
    have e : moreB np f P (k : Int) = decide ((P k).n < (f k).nl) := by unfold moreB; rw [hin]; simp
    rw [e]
    clear hin'
    have hW := fun W => within_any (k : Int) 0 ((np : Int) - 1) W
    simp only [hin] at hW
    go_enter Tryz.func69, Tryz.ntmps69
    go_wp2
    go_quiet ((go_at_call 52; exact Calls.quiet_of_same (hW _)))
    go_wp2
    go_ret
    exact ⟨rfl, _, rfl⟩

set_option maxRecDepth 20000 in
set_option maxHeartbeats 4000000 in
theorem isWhole_any (b : Nat) (a : Option Addr) (len cap : Nat) (gap : Int) (a' : Option Addr) (np cap' : Nat) (f : Nat → TrainD) (c : Option Addr) (nc : Nat) (P : Nat → RowD) (last : Int) (w : World) (hR : RightL len np f)
    (hL : L2 w b a len cap gap a' np cap' c nc last) (hT : IsTrains 0 w.heap.size w a' np f) (hP : IsRows 0 w.heap.size w c np P) :
    Calls Tryz.prog 43 #[.pointer (some ⟨b, 0, none⟩)] w fun e w' => (∃ r, e = .returned (.bool r) ∧ (r = true ↔ ∀ j, j < np → moreB np f P (j : Int) = false)) ∧ Below w.heap.size w w' := by
  have htr := hR.tr
  have x3 := hL.c3
  go_enter Tryz.func43, Tryz.ntmps43
  go_wp2
  clear x3
  go_loopw [9] (fun kk wr => ∃ (k : Nat), k ≤ np ∧ kk = .int .i64 k ∧ (∀ j, j < k → moreB np f P (j : Int) = false) ∧ Below w.heap.size w wr) (fun kk _ => np - (intOf kk).toNat)
  case atStart => exact ⟨0, Nat.zero_le _, rfl, fun j hj => absurd hj (Nat.not_lt_zero j), Below.refl _ _⟩
  case round =>
    obtain ⟨k, hk, rfl, hall, hB⟩ := hrel
    have hall' : Hid _ := hall
    clear hall
    by_cases hlt : k < np
    · have hlt' : (k : Int) < (np : Int) := by omega
      have hN := hasNext_any b a len cap gap a' np cap' f c nc P last (k : Int) wr hR (hL.later hB) (hT.grow hB) (hP.grow hB)
      cases hm : moreB np f P (k : Int)
      · rw [hm] at hN
        have hnew : Hid (∀ j, j < k + 1 → moreB np f P (j : Int) = false) := fun j hj => by
          rcases Nat.lt_or_ge j k with h | h
          · exact hall'.out j h
          · obtain rfl : j = k := by omega
            exact hm
        go_wp2_with (go_at_call 69; refine hN.mono ?_; rintro _ w2 ⟨rfl, q2, hw2⟩; have hB2 : Below wr.heap.size wr w2 := (by rw [hw2]; exact below_drewN (Below.refl _ _) _); clear hw2)
        go_roundw
        case rel => exact ⟨k + 1, by omega, by go_num, hnew.out, Below.join hB (Nat.le_refl _) hB2⟩
        case measure => simp [intOf]; omega
      · rw [hm] at hN
        go_wp2_with (go_at_call 69; refine hN.mono ?_; rintro _ w2 ⟨rfl, q2, hw2⟩; have hB2 : Below wr.heap.size wr w2 := (by rw [hw2]; exact below_drewN (Below.refl _ _) _); clear hw2)
        go_ret
        exact ⟨⟨false, rfl, fun h => (by cases h), fun h => (by rw [h k hlt] at hm; cases hm)⟩, Below.join hB (Nat.le_refl _) hB2⟩
    · obtain rfl : k = np := by omega
      go_wp2
      go_ret
      exact ⟨⟨true, rfl, fun _ => hall'.out, fun _ => rfl⟩, hB⟩

set_option maxRecDepth 20000 in
set_option maxHeartbeats 4000000 in
theorem trackFree_any (b bT n : Nat) (m : Int → Value) (i : Nat) (k : Int) (tr fr fe : Int) (w : World) (hk : (Lit.int .i64 k).wf = true)
    (h5 : w.cell? ⟨b, 5, none⟩ = some (.map (some bT))) (hM : KV 3 w bT n (.agg #[.int .i64 0, .int .i64 0, .int .i64 0]) m) (hv : m k = .agg #[.int .i64 tr, .int .i64 fr, .int .i64 fe]) :
    Calls Tryz.prog 70 #[.pointer (some ⟨b, 0, none⟩), .int .i64 i, .int .i64 k] w fun e w' => e = .returned (.int .i64 (if tr = (i : Int) then 0 else fe)) ∧ Below w.heap.size w w' := by
  have hlk := hM.lookup Tryz.underlying3 Tryz.underlying87 (Tryz.zeroHold _) hk
  rw [hv] at hlk
  by_cases he : tr = (i : Int)
  · rw [if_pos he]
    have hed : (tr == (i : Int)) = true := by simp [he]
    clear he
    go_enter Tryz.func70, Tryz.ntmps70
    go_wp2
    go_ret
    exact ⟨rfl, by first | exact b1 _ _ | exact Below.refl _ _⟩
  · rw [if_neg he]
    have hed : (tr == (i : Int)) = false := by simp [he]
    clear he
    go_enter Tryz.func70, Tryz.ntmps70
    go_wp2
    go_ret
    exact ⟨rfl, by first | exact b1 _ _ | exact Below.refl _ _⟩
end Go.Proofs.YtelickcfodcmaaaGreatDoor

namespace Go.Proofs.YtelickcfodcmaaaGreatDoor

/-- the values of a row's first n places -/
def elems (s : Nat → Int) (n : Nat) : List Int := (List.range n).map s
def swapF (s : Nat → Int) (i j : Nat) : Nat → Int := fun k => if k = j then s i else if k = i then s j else s k
theorem elems_swap (s : Nat → Int) {i j n : Nat} (hi : i < n) (hj : j < n) : (elems (swapF s i j) n).Perm (elems s n) := by
  have h1 : elems (swapF s i j) n = ((List.range n).map fun k => if k = j then i else if k = i then j else k).map s := by
    unfold elems
    rw [List.map_map]
    apply List.map_congr_left
    intro k _
    simp only [Function.comp, swapF]
    split
    · rfl
    · split <;> rfl
  rw [h1]
  unfold elems
  apply List.Perm.map
  have nd : ((List.range n).map fun k => if k = j then i else if k = i then j else k).Nodup := by
    rw [List.nodup_iff_pairwise_ne, List.pairwise_map]
    refine List.Pairwise.imp_of_mem ?_ (List.nodup_iff_pairwise_ne.1 List.nodup_range)
    intro a b _ _ hab
    split <;> split <;> (try split) <;> (try split) <;> omega
  rw [List.perm_ext_iff_of_nodup nd List.nodup_range]
  intro a
  simp only [List.mem_map, List.mem_range]
  constructor
  · rintro ⟨k, hk, rfl⟩
    split
    · exact hi
    · split
      · exact hj
      · exact hk
  · intro ha
    by_cases e1 : a = i
    · subst e1; exact ⟨j, hj, by simp⟩
    · by_cases e2 : a = j
      · subst e2
        exact ⟨i, hi, by by_cases e : i = a <;> simp [e]⟩
      · exact ⟨a, ha, by simp [e1, e2]⟩
def IsHeap (s : Nat → Int) (n : Nat) : Prop := ∀ k, 0 < k → k < n → s ((k - 1) / 2) ≤ s k
theorem IsHeap.least {s : Nat → Int} {n : Nat} (h : IsHeap s n) : ∀ k, k < n → s 0 ≤ s k := by
  intro k
  induction k using Nat.strongRecOn with
  | _ k ih =>
    intro hk
    rcases Nat.eq_zero_or_pos k with e | e
    · subst e; exact Int.le_refl _
    · exact Int.le_trans (ih ((k - 1) / 2) (by omega) (by omega)) (h k e hk)
/-- all in order but for i, which may be too small for where it is -/
structure UpHeap (s : Nat → Int) (n i : Nat) : Prop where
  rest : ∀ k, 0 < k → k < n → k ≠ i → s ((k - 1) / 2) ≤ s k
  skip : ∀ k, 0 < k → k < n → (k - 1) / 2 = i → 0 < i → s ((i - 1) / 2) ≤ s k
theorem UpHeap.done {s : Nat → Int} {n i : Nat} (h : UpHeap s n i) (hd : i = 0 ∨ s ((i - 1) / 2) ≤ s i) : IsHeap s n := by
  intro k h0 hk
  by_cases e : k = i
  · subst e
    rcases hd with hd | hd
    · omega
    · exact hd
  · exact h.rest k h0 hk e
theorem UpHeap.step {s : Nat → Int} {n i : Nat} (h : UpHeap s n i) (hi : i < n) (h0 : 0 < i) (hlt : s i < s ((i - 1) / 2)) : UpHeap (swapF s i ((i - 1) / 2)) n ((i - 1) / 2) := by
  have hp : (i - 1) / 2 < i := by omega
  refine ⟨fun k hk0 hk hne => ?_, fun k hk0 hk he hp0 => ?_⟩
  · simp only [swapF]
    by_cases e1 : k = i
    · subst e1
      rw [if_pos rfl, if_neg (by omega), if_pos rfl]
      omega
    · by_cases e2 : (k - 1) / 2 = (i - 1) / 2
      · rw [if_pos e2, if_neg (by omega), if_neg e1]
        have := h.rest k hk0 hk e1
        rw [e2] at this
        omega
      · by_cases e3 : (k - 1) / 2 = i
        · rw [if_neg e2, if_pos e3, if_neg hne, if_neg e1]
          exact h.skip k hk0 hk e3 h0
        · rw [if_neg e2, if_neg e3, if_neg hne, if_neg e1]
          exact h.rest k hk0 hk e1
  · simp only [swapF]
    have hpp := h.rest ((i - 1) / 2) hp0 (by omega) (by omega)
    rw [if_neg (by omega), if_neg (by omega)]
    by_cases e1 : k = i
    · subst e1
      rw [if_neg (by omega), if_pos rfl]
      exact hpp
    · rw [if_neg (by omega), if_neg e1]
      have := h.rest k hk0 hk e1
      rw [he] at this
      omega
/-- all in order but that i may be too great for where it is -/
structure DownHeap (s : Nat → Int) (n i : Nat) : Prop where
  rest : ∀ k, 0 < k → k < n → (k - 1) / 2 ≠ i → s ((k - 1) / 2) ≤ s k
  skip : ∀ k, 0 < k → k < n → (k - 1) / 2 = i → 0 < i → s ((i - 1) / 2) ≤ s k
theorem DownHeap.done {s : Nat → Int} {n i : Nat} (h : DownHeap s n i) (hd : ∀ k, 0 < k → k < n → (k - 1) / 2 = i → s i ≤ s k) : IsHeap s n := by
  intro k h0 hk
  by_cases e : (k - 1) / 2 = i
  · rw [e]; exact hd k h0 hk e
  · exact h.rest k h0 hk e
theorem DownHeap.step {s : Nat → Int} {n i c : Nat} (h : DownHeap s n i) (hc0 : 0 < c) (hcn : c < n) (hci : (c - 1) / 2 = i) (hlt : s c < s i) (hmin : ∀ k, 0 < k → k < n → (k - 1) / 2 = i → s c ≤ s k) : DownHeap (swapF s i c) n c := by
  have hic : i < c := by omega
  refine ⟨fun k hk0 hk hne => ?_, fun k hk0 hk he _ => ?_⟩
  · simp only [swapF]
    by_cases e1 : (k - 1) / 2 = i
    · rw [if_neg (by omega), if_pos e1]
      by_cases e2 : k = c
      · rw [if_pos e2]; omega
      · rw [if_neg e2, if_neg (by omega)]
        exact hmin k hk0 hk e1
    · rw [if_neg hne, if_neg e1]
      by_cases e2 : k = c
      · subst e2; exact absurd hci e1
      · rw [if_neg e2]
        by_cases e3 : k = i
        · subst e3
          rw [if_pos rfl]
          exact h.skip c hc0 hcn hci hk0
        · rw [if_neg e3]
          exact h.rest k hk0 hk e1
  · simp only [swapF]
    rw [if_neg (by omega), if_pos hci, if_neg (by omega), if_neg (by omega)]
    have := h.rest k hk0 hk (by omega)
    rw [he] at this
    exact this
/-- the least of a place and the first d below it -/
def lessAt (s : Nat → Int) (n i : Nat) : Nat → Nat
  | 0 => i
  | d + 1 => if 2 * i + 1 + d < n ∧ s (2 * i + 1 + d) < s (lessAt s n i d) then 2 * i + 1 + d else lessAt s n i d
theorem lessAt_lt {s : Nat → Int} {n i : Nat} (hi : i < n) : ∀ d, lessAt s n i d < n
  | 0 => hi
  | d + 1 => by simp only [lessAt]; split <;> rename_i h; (· exact h.1); (· exact lessAt_lt hi d)
theorem lessAt_is (s : Nat → Int) (n i : Nat) (_hi : i < n) : (lessAt s n i 2 = i ∨ (0 < lessAt s n i 2 ∧ (lessAt s n i 2 - 1) / 2 = i ∧ s (lessAt s n i 2) < s i)) ∧ s (lessAt s n i 2) ≤ s i ∧ ∀ k, 0 < k → k < n → (k - 1) / 2 = i → s (lessAt s n i 2) ≤ s k := by
  have hk : ∀ k, 0 < k → (k - 1) / 2 = i → k = 2 * i + 1 ∨ k = 2 * i + 2 := fun k h1 h2 => by omega
  have e1 : ∀ a, lessAt s n i 1 = a → lessAt s n i 2 = if 2 * i + 2 < n ∧ s (2 * i + 2) < s a then 2 * i + 2 else a := fun a h => by rw [← h]; rfl
  have e0 : lessAt s n i 1 = if 2 * i + 1 < n ∧ s (2 * i + 1) < s i then 2 * i + 1 else i := rfl
  by_cases h1 : 2 * i + 1 < n ∧ s (2 * i + 1) < s i
  · rw [if_pos h1] at e0
    have e2 := e1 _ e0
    by_cases h2 : 2 * i + 2 < n ∧ s (2 * i + 2) < s (2 * i + 1)
    · rw [if_pos h2] at e2
      rw [e2]
      refine ⟨Or.inr ⟨by omega, by omega, by omega⟩, by omega, fun k a b c => ?_⟩
      rcases hk k a c with rfl | rfl
      · omega
      · exact Int.le_refl _
    · rw [if_neg h2] at e2
      rw [e2]
      refine ⟨Or.inr ⟨by omega, by omega, h1.2⟩, by omega, fun k a b c => ?_⟩
      rcases hk k a c with rfl | rfl
      · exact Int.le_refl _
      · rcases Int.lt_or_le (s (2 * i + 2)) (s (2 * i + 1)) with h3 | h3
        · exact absurd ⟨b, h3⟩ h2
        · exact h3
  · rw [if_neg h1] at e0
    have e2 := e1 _ e0
    have h1' : 2 * i + 1 < n → s i ≤ s (2 * i + 1) := fun a => by
      rcases Int.lt_or_le (s (2 * i + 1)) (s i) with h3 | h3
      · exact absurd ⟨a, h3⟩ h1
      · exact h3
    by_cases h2 : 2 * i + 2 < n ∧ s (2 * i + 2) < s i
    · rw [if_pos h2] at e2
      rw [e2]
      refine ⟨Or.inr ⟨by omega, by omega, h2.2⟩, by omega, fun k a b c => ?_⟩
      rcases hk k a c with rfl | rfl
      · have := h1' b; omega
      · exact Int.le_refl _
    · rw [if_neg h2] at e2
      rw [e2]
      refine ⟨Or.inl rfl, Int.le_refl _, fun k a b c => ?_⟩
      rcases hk k a c with rfl | rfl
      · exact h1' b
      · rcases Int.lt_or_le (s (2 * i + 2)) (s i) with h3 | h3
        · exact absurd ⟨b, h3⟩ h2
        · exact h3
end Go.Proofs.YtelickcfodcmaaaGreatDoor

namespace Go.Proofs.YtelickcfodcmaaaGreatDoor
open Go.RowKit

set_option maxRecDepth 20000 in
set_option maxHeartbeats 4000000 in
theorem swapI_any (B O gH n cap i j : Nat) (x y : Int) (w : World) (hi : i < n) (hj : j < n) (_hn : n ≤ 1000) (h0 : w.cell? ⟨B, O, none⟩ = some (.slice (some ⟨gH, 0, none⟩) n cap)) (hx : w.cell? ⟨gH, i, none⟩ = some (.int .i64 x)) (hy : w.cell? ⟨gH, j, none⟩ = some (.int .i64 y))
    (hzi : w.frozen? ⟨gH, i, none⟩ = false) (hzj : w.frozen? ⟨gH, j, none⟩ = false) :
    Calls Tryz.prog 151 #[.pointer (some ⟨B, O, none⟩), .int .i64 i, .int .i64 j] w fun e w' => e = .returned (.tuple #[]) ∧ w' = (w.drew.setCell ⟨gH, i, none⟩ (.int .i64 y)).setCell ⟨gH, j, none⟩ (.int .i64 x) := by
  have hi' : (i : Int) < (n : Int) := by omega
  have hj' : (j : Int) < (n : Int) := by omega
  have hi0 : (0 : Int) ≤ (i : Int) := by omega
  have hj0 : (0 : Int) ≤ (j : Int) := by omega
  obtain ⟨y', hy'⟩ := cell?_setCell_some (w := w) (p := ⟨gH, i, none⟩) (x := .int .i64 y) hy
  go_enter Tryz.func151, Tryz.ntmps151
  go_wp2
  go_region
  all_goals
    go_wp2
    go_end0
    exact ⟨rfl, rfl⟩

theorem drewN_add (w : World) (p q : Nat) : (w.drewN p).drewN q = w.drewN (p + q) := by simp [World.drewN, Nat.add_assoc]
def numCells (s : Nat → Int) (n : Nat) : List Value := (elems s n).map (Value.int .i64)
theorem numCells_len (s : Nat → Int) (n : Nat) : (numCells s n).length = n := by simp [numCells, elems]
theorem numCells_at (s : Nat → Int) (n k : Nat) (h : k < n) : (numCells s n)[k]? = some (.int .i64 (s k)) := by simp [numCells, elems, h]
theorem numCells_ext {s : Nat → Int} {n : Nat} {xs : List Value} (hl : xs.length = n) (h : ∀ k, k < n → xs[k]? = some (.int .i64 (s k))) : xs = numCells s n := by
  apply List.ext_getElem?
  intro k
  by_cases hk : k < n
  · rw [h k hk, numCells_at s n k hk]
  · rw [List.getElem?_eq_none (by omega), List.getElem?_eq_none (by rw [numCells_len]; omega)]
/-- a row of n numbers of the call's own, its slice behind a pointer -/
structure HeapM (b0 : Nat) (W : World) (B O gH n cap : Nat) (s : Nat → Int) : Prop where
  sl : W.cell? ⟨B, O, none⟩ = some (.slice (some ⟨gH, 0, none⟩) n cap)
  own : W.ownsRow b0 3 1 (.slice (some ⟨gH, 0, none⟩) n cap) n (numCells s n)
  ne : B ≠ gH
theorem HeapM.at_ {b0 : Nat} {W : World} {B O gH n cap : Nat} {s : Nat → Int} (h : HeapM b0 W B O gH n cap s) : ∀ k, k < n → W.cell? ⟨gH, k, none⟩ = some (.int .i64 (s k)) ∧ W.frozen? ⟨gH, k, none⟩ = false := fun k hk =>
  ⟨(h.own.cellAt k (by omega)).trans (numCells_at s n k hk), h.own.frozenAt k⟩
theorem HeapM.drewN {b0 : Nat} {W : World} {B O gH n cap : Nat} {s : Nat → Int} (h : HeapM b0 W B O gH n cap s) (q : Nat) : HeapM b0 (W.drewN q) B O gH n cap s := ⟨h.sl, h.own, h.ne⟩
theorem HeapM.store {b0 : Nat} {W : World} {B O gH n cap : Nat} {s : Nat → Int} (h : HeapM b0 W B O gH n cap s) {i : Nat} (hi : i < n) (x : Int) : HeapM b0 (W.setCell ⟨gH, i, none⟩ (.int .i64 x)) B O gH n cap (fun k => if k = i then x else s k) := by
  refine ⟨(World.cell?_setCell_other _ _ _ _ (by intro e; cases e; exact h.ne rfl)).trans h.sl, ?_, h.ne⟩
  have ho := (h.own.stored i (.int .i64 x)).1
  have e : (numCells s n).set i (.int .i64 x) = numCells (fun k => if k = i then x else s k) n := numCells_ext (by rw [List.length_set, numCells_len]) (fun k hk => by
    rw [List.getElem?_set]
    by_cases e : i = k
    · subst e; simp [numCells_len, hk]
    · rw [if_neg e, numCells_at s n k hk, if_neg (fun e' => e e'.symm)])
  rw [e] at ho
  exact ho
theorem HeapM.swap {b0 : Nat} {W : World} {B O gH n cap : Nat} {s : Nat → Int} (h : HeapM b0 W B O gH n cap s) {i j : Nat} (hi : i < n) (hj : j < n) : HeapM b0 ((W.drew.setCell ⟨gH, i, none⟩ (.int .i64 (s j))).setCell ⟨gH, j, none⟩ (.int .i64 (s i))) B O gH n cap (swapF s i j) := by
  have h1 := ((h.drewN 1).store hi (s j)).store hj (s i)
  have e : (fun k => if k = j then s i else if k = i then s j else s k) = swapF s i j := rfl
  rw [e] at h1
  exact h1

set_option maxRecDepth 20000 in
set_option maxHeartbeats 4000000 in
theorem lesser_any (b0 B O gH n cap i : Nat) (s : Nat → Int) (w : World) (hi1 : i ≤ 1000) (_hn : n ≤ 1000) (h : HeapM b0 w B O gH n cap s) :
    Calls Tryz.prog 150 #[.pointer (some ⟨B, O, none⟩), .int .i64 i] w fun e w' => e = .returned (.int .i64 (lessAt s n i 2 : Nat)) ∧ ∃ q, w' = w.drewN q := by
  have h0 := h.sl
  go_enter Tryz.func150, Tryz.ntmps150
  go_wp2
  go_loopw [5, 6] (fun ll bb wr => ∃ (d : Nat), d ≤ 2 ∧ bb = .int .i64 ((2 * i + 1 + d : Nat) : Int) ∧ ll = .int .i64 (lessAt s n i d : Nat) ∧ ∃ q, wr = w.drewN q) (fun _ bb _ => (2 * i + 3 - intOf bb).toNat)
  case atStart => exact ⟨0, by omega, by go_num, rfl, 0, rfl⟩
  case round =>
    obtain ⟨d, hd, rfl, rfl, q, hwq'⟩ := hrel
    have hwq : Hid _ := hwq'
    have hM : HeapM b0 wr B O gH n cap s := by rw [hwq']; exact h.drewN q
    clear hwq'
    have hq0 := hM.sl
    by_cases hd2 : d < 2
    · have hb1 : ((2 * i + 1 + d : Nat) : Int) ≤ 2 * (i : Int) + 2 := by omega
      by_cases hbn : 2 * i + 1 + d < n
      · have hlt0 := lessAt_lt (s := s) (show i < n by omega) d
        have hl0 : (0 : Int) ≤ ((lessAt s n i d : Nat) : Int) := by omega
        have hl1 : ((lessAt s n i d : Nat) : Int) < (n : Int) := by omega
        have hstep : lessAt s n i (d + 1) = if 2 * i + 1 + d < n ∧ s (2 * i + 1 + d) < s (lessAt s n i d) then 2 * i + 1 + d else lessAt s n i d := rfl
        have c1 := (hM.at_ (2 * i + 1 + d) hbn).1
        have c2 := (hM.at_ (lessAt s n i d) hlt0).1
        have hst : Hid _ := hstep
        have hbb : ((2 * i + 1 + d : Nat) : Int) + 1 = ((2 * i + 1 + (d + 1) : Nat) : Int) := by omega
        have hbbH : Hid _ := hbb
        clear hstep hbb
        generalize lessAt s n i d = L at hst hlt0 hl0 hl1 c2 ⊢
        have hbe : Hid (2 * i + 1 + d = 2 * i + 1 + d) := by unfold Hid; rfl
        generalize hbx : 2 * i + 1 + d = bx at hb1 hbn c1 hst hbbH ⊢
        have hbx' : Hid _ := hbx
        clear hbx hbe
        have hbn' : (bx : Int) < (n : Int) := by omega
        have hbx0 : (0 : Int) ≤ (bx : Int) := by omega
        by_cases hc : s bx < s L
        · have ev : Hid (lessAt s n i (d + 1) = bx) := by unfold Hid; rw [hst.out, if_pos ⟨hbn, hc⟩]
          go_wp2
          go_quiet (fail)
          go_wp2
          go_roundw
          case rel => exact ⟨d + 1, by omega, by have := hbx'.out; go_num, by rw [ev.out], _, by rw [hwq.out]; exact drewN_add _ _ _⟩
          case measure => have := hbx'.out; simp [intOf]; omega
        · have ev : Hid (lessAt s n i (d + 1) = L) := by unfold Hid; rw [hst.out, if_neg (fun h => hc h.2)]
          go_wp2
          go_quiet (fail)
          go_wp2
          go_roundw
          case rel => exact ⟨d + 1, by omega, by have := hbx'.out; go_num, by rw [ev.out], _, by rw [hwq.out]; exact drewN_add _ _ _⟩
          case measure => have := hbx'.out; simp [intOf]; omega
      · have hfin : lessAt s n i 2 = lessAt s n i d := by
          have h1 : ∀ e, d ≤ e → e ≤ 2 → lessAt s n i e = lessAt s n i d := by
            intro e he he2
            induction e with
            | zero => obtain rfl : d = 0 := (by omega); rfl
            | succ e ih =>
              by_cases e3 : d = e + 1
              · subst e3; rfl
              · show (if 2 * i + 1 + e < n ∧ s (2 * i + 1 + e) < s (lessAt s n i e) then 2 * i + 1 + e else lessAt s n i e) = _
                rw [if_neg (fun h => by omega)]
                exact ih (by omega) (by omega)
          exact h1 2 (by omega) (Nat.le_refl _)
        have hfin' : Hid _ := hfin
        have hbn' : ¬ (((2 * i + 1 + d : Nat) : Int) < (n : Int)) := by omega
        clear hfin
        generalize hbx : 2 * i + 1 + d = bx at hb1 hbn' ⊢
        clear hbx hbn
        go_wp2
        go_ret
        exact ⟨by rw [hfin'.out]; rfl, q, hwq.out⟩
    · obtain rfl : d = 2 := by omega
      have hb1 : ¬ (((2 * i + 1 + 2 : Nat) : Int) ≤ 2 * (i : Int) + 2) := by omega
      generalize hbx : 2 * i + 1 + 2 = bx at hb1 ⊢
      clear hbx
      go_wp2
      go_ret
      exact ⟨rfl, q, hwq.out⟩

/-- only the row's block, and the one place of its slice, have been written -/
structure HFr (w w' : World) (B O gH : Nat) : Prop where
  os : w'.os = w.os
  tape : w'.tape = w.tape
  output : w'.output = w.output
  size : w'.heap.size = w.heap.size
  oth : ∀ k, k ≠ gH → k ≠ B → w'.heap[k]? = w.heap[k]?
  box : ∀ x, x ≠ O → w'.cell? ⟨B, x, none⟩ = w.cell? ⟨B, x, none⟩
  fz : ∀ k x, w'.frozen? ⟨k, x, none⟩ = w.frozen? ⟨k, x, none⟩
theorem HFr.refl (w : World) (B O gH : Nat) : HFr w w B O gH := ⟨rfl, rfl, rfl, rfl, fun _ _ _ => rfl, fun _ _ => rfl, fun _ _ => rfl⟩
theorem HFr.trans {a b c : World} {B O gH : Nat} (h : HFr a b B O gH) (k : HFr b c B O gH) : HFr a c B O gH :=
  ⟨k.os.trans h.os, k.tape.trans h.tape, k.output.trans h.output, k.size.trans h.size, fun x h1 h2 => (k.oth x h1 h2).trans (h.oth x h1 h2), fun x hx => (k.box x hx).trans (h.box x hx), fun x y => (k.fz x y).trans (h.fz x y)⟩
theorem HFr.drewN (w : World) (B O gH q : Nat) : HFr w (w.drewN q) B O gH := ⟨rfl, rfl, rfl, rfl, fun _ _ _ => rfl, fun _ _ => rfl, fun _ _ => rfl⟩
theorem HFr.row {w : World} {B O gH : Nat} (hne : B ≠ gH) (x : Nat) (u : Value) : HFr w (w.setCell ⟨gH, x, none⟩ u) B O gH :=
  ⟨rfl, rfl, rfl, by simp, fun k h1 _ => Below.heap_setCell w ⟨gH, x, none⟩ u k h1, fun y _ => World.cell?_setCell_other _ _ _ _ (by intro e; cases e; exact hne rfl), fun _ _ => World.frozen?_setCell _ _ _ _⟩
theorem HFr.sl {w : World} {B O gH : Nat} (u : Value) : HFr w (w.setCell ⟨B, O, none⟩ u) B O gH :=
  ⟨rfl, rfl, rfl, by simp, fun k _ h2 => Below.heap_setCell w ⟨B, O, none⟩ u k h2, fun y hy => cell_set_ne (fun e => hy e.symm), fun _ _ => World.frozen?_setCell _ _ _ _⟩
theorem HFr.swap {w : World} {B O gH : Nat} (hne : B ≠ gH) (i j : Nat) (u v : Value) : HFr w ((w.drew.setCell ⟨gH, i, none⟩ u).setCell ⟨gH, j, none⟩ v) B O gH :=
  ((HFr.drewN w B O gH 1).trans (HFr.row hne i u)).trans (HFr.row hne j v)

set_option maxRecDepth 20000 in
set_option maxHeartbeats 8000000 in
theorem pop_any (b0 B O gH n cap : Nat) (s : Nat → Int) (w : World) (hn0 : 0 < n) (hn : n ≤ 1000) (hcap : n ≤ cap) (h : HeapM b0 w B O gH n cap s) (hz : w.frozen? ⟨B, O, none⟩ = false) (hH : IsHeap s n) :
    Calls Tryz.prog 108 #[.pointer (some ⟨B, O, none⟩)] w fun e w' => e = .returned (.int .i64 (s 0)) ∧ ∃ s', HeapM b0 w' B O gH (n - 1) cap s' ∧ IsHeap s' (n - 1) ∧ (elems s n).Perm (s 0 :: elems s' (n - 1)) ∧ HFr w w' B O gH := by
  have h0 := h.sl
  obtain ⟨c0, f0⟩ := h.at_ 0 hn0
  obtain ⟨c1, f1⟩ := h.at_ (n - 1) (by omega)
  have hne := h.ne
  have e1 : ((n : Int) - 1) = ((n - 1 : Nat) : Int) := by omega
  have hw1 : IntKind.i64.wrap ((n : Int) - 1) = ((n - 1 : Nat) : Int) := by rw [IntKind.wrap_i64]; omega
  have hn1 : ((n - 1 : Nat) : Int) < (n : Int) := by omega
  have hn2 : (0 : Int) ≤ ((n - 1 : Nat) : Int) := by omega
  have hn3 : ((n - 1 : Nat) : Int) ≤ (cap : Int) := by omega
  have hn4 : (0 : Int) < (n : Int) := by omega
  have hs1 : HeapM b0 ((w.drew.setCell ⟨gH, 0, none⟩ (.int .i64 (s (n - 1)))).setCell ⟨B, O, none⟩ (.slice (some ⟨gH, 0, none⟩) (n - 1) cap)) B O gH (n - 1) cap (fun k => if k = 0 then s (n - 1) else s k) := by
    have h2 := (h.drewN 1).store hn0 (s (n - 1))
    refine ⟨World.cell?_setCell_same _ _ _ h2.sl, ?_, hne⟩
    refine ownsRow_same ?_ (fun k hk => Below.heap_setCell _ ⟨B, O, none⟩ _ k (by simp only [Value.ownBlock, Option.some.injEq] at hk; dsimp only; omega))
    obtain ⟨hl, hr⟩ := h2.own
    rcases hr with ⟨e, _⟩ | ⟨g', cap2, cur, e, hb, hg, hnc, hcm, hsz, htk⟩
    · cases e
    · injection e with e1 _ e3
      injection e1 with e1
      injection e1 with e1
      subst e1; subst e3
      refine ⟨by rw [numCells_len]; omega, .inr ⟨gH, cap, cur, rfl, hb, hg, by omega, hcm, hsz, ?_⟩⟩
      refine numCells_ext (by rw [List.length_take]; have h3 := congrArg List.length htk; rw [List.length_take, numCells_len] at h3; simp at h3 ⊢; omega) (fun k hk => ?_)
      have h4 := numCells_at (fun k => if k = 0 then s (n - 1) else s k) n k (by omega)
      rw [← htk, List.getElem?_take, if_pos (by omega)] at h4
      rw [List.getElem?_take, if_pos (by omega)]
      exact h4
  have hdown : DownHeap (fun k => if k = 0 then s (n - 1) else s k) (n - 1) 0 := by
    refine ⟨fun k k0 kn kp => ?_, fun k _ _ _ h00 => absurd h00 (Nat.lt_irrefl 0)⟩
    show (if (k - 1) / 2 = 0 then s (n - 1) else s ((k - 1) / 2)) ≤ (if k = 0 then s (n - 1) else s k)
    rw [if_neg kp, if_neg (by omega)]
    exact hH k k0 (by omega)
  have hperm : (elems s n).Perm (s 0 :: elems (fun k => if k = 0 then s (n - 1) else s k) (n - 1)) := by
    obtain ⟨m, rfl⟩ : ∃ m, n = m + 1 := ⟨n - 1, by omega⟩
    simp only [Nat.add_sub_cancel]
    cases m with
    | zero => exact List.Perm.refl _
    | succ m =>
      have l1 : elems s (m + 1 + 1) = s 0 :: (((List.range m).map fun k => s (k + 1)) ++ [s (m + 1)]) := by
        unfold elems
        rw [List.range_succ, List.range_succ_eq_map]
        simp [List.map_map, Function.comp]
      have l2 : elems (fun k => if k = 0 then s (m + 1) else s k) (m + 1) = s (m + 1) :: ((List.range m).map fun k => s (k + 1)) := by
        unfold elems
        rw [List.range_succ_eq_map]
        simp [List.map_map, Function.comp]
      rw [l1, l2]
      exact List.Perm.cons _ (List.perm_append_singleton _ _)
  have hfr1 : HFr w ((w.drew.setCell ⟨gH, 0, none⟩ (.int .i64 (s (n - 1)))).setCell ⟨B, O, none⟩ (.slice (some ⟨gH, 0, none⟩) (n - 1) cap)) B O gH := ((HFr.drewN w B O gH 1).trans (HFr.row hne 0 _)).trans (HFr.sl _)
  have hperm' : Hid _ := hperm
  have hdown' : Hid _ := hdown
  have hs1' : Hid _ := hs1
  have hfr1' : Hid _ := hfr1
  clear hperm hdown hs1 hfr1
  have hcs : (w.drew.setCell ⟨gH, 0, none⟩ (.int .i64 (s (n - 1)))).cell? ⟨B, O, none⟩ = some (.slice (some ⟨gH, 0, none⟩) n cap) := (World.cell?_setCell_other _ _ _ _ (by intro e; cases e; exact hne rfl)).trans h.sl
  generalize hnn : n - 1 = m at *
  have hnm : Hid _ := hnn
  clear hnn
  go_enter Tryz.func108, Tryz.ntmps108
  go_wp2
  go_region
  all_goals
    have hl0 := fun V q (hq : HeapM b0 V B O gH m cap q) => lesser_any b0 B O gH m cap 0 q V (by omega) (by omega) hq
    go_wp2_with (go_at_call 150; refine (hl0 _ _ hs1'.out).mono ?_; rintro _ w5 ⟨rfl, q5, hw5'⟩; have hw5 : Hid _ := hw5'; clear hw5')
    have hM5 : HeapM b0 w5 B O gH m cap (fun k => if k = 0 then s m else s k) := by rw [hw5.out]; exact hs1'.out.drewN q5
    have hF5 : HFr w w5 B O gH := by rw [hw5.out]; exact hfr1'.out.trans (HFr.drewN _ B O gH q5)
    clear hw5 hl0 hcs c0 c1 f0 f1 h0 hs1' hfr1'
    go_loopw [5, 6] (fun ii nn wr => ∃ (i : Nat) (s' : Nat → Int), ii = .int .i64 i ∧ nn = .int .i64 (lessAt s' m i 2 : Nat) ∧ (i < m ∨ i = 0) ∧ DownHeap s' m i ∧ (elems s' m).Perm (elems (fun k => if k = 0 then s m else s k) m) ∧ HeapM b0 wr B O gH m cap s' ∧ HFr w wr B O gH) (fun ii _ _ => m + 1 - (intOf ii).toNat)
    case atStart => exact ⟨0, _, rfl, rfl, Or.inr rfl, hdown'.out, List.Perm.refl _, hM5, hF5⟩
    case round =>
      obtain ⟨i, s', rfl, rfl, hi, hD, hPm, hM, hF⟩ := hrel
      by_cases hex : lessAt s' m i 2 = i
      · have hfin : Hid (∃ s', HeapM b0 wr B O gH m cap s' ∧ IsHeap s' m ∧ (elems s n).Perm (s 0 :: elems s' m) ∧ HFr w wr B O gH) := by
          refine ⟨s', hM, hD.done (fun k k0 kn kp => ?_), hperm'.out.trans (List.Perm.cons _ hPm.symm), hF⟩
          have := (lessAt_is s' m i (by omega)).2.2 k k0 kn kp
          rw [hex] at this
          exact this
        have hexb : (((lessAt s' m i 2 : Nat) : Int) != (i : Int)) = false := by simp; omega
        clear hex hM hD hPm hF
        generalize lessAt s' m i 2 = nx at hexb ⊢
        go_wp2
        go_ret
        exact ⟨rfl, hfin.out⟩
      · have him : i < m := by
          rcases hi with h1 | h1
          · exact h1
          · rcases Nat.eq_zero_or_pos m with h2 | h2
            · exfalso
              refine hex ?_
              subst h1
              simp [lessAt, h2]
            · omega
        obtain ⟨hl1, hl2, hl3⟩ := lessAt_is s' m i him
        have hlm := lessAt_lt (s := s') him 2
        have hl1' := hl1.resolve_left hex
        have hexb : (((lessAt s' m i 2 : Nat) : Int) != (i : Int)) = true := by simp; omega
        have hD2 : Hid _ := hD.step hl1'.1 hlm hl1'.2.1 hl1'.2.2 hl3
        have hgt : i < lessAt s' m i 2 := by have := hl1'.1; have := hl1'.2.1; omega
        clear hl1 hl2 hl3 hl1' hex
        generalize lessAt s' m i 2 = nx at hexb hD2 hlm hgt ⊢
        have hSw := swapI_any B O gH m cap i nx (s' i) (s' nx) wr him hlm (by omega) hM.sl (hM.at_ i him).1 (hM.at_ nx hlm).1 (hM.at_ i him).2 (hM.at_ nx hlm).2
        have hM2 := hM.swap him hlm
        have hF2 := hF.trans (HFr.swap (O := O) hM.ne i nx (.int .i64 (s' nx)) (.int .i64 (s' i)))
        have hPm2 : Hid _ := (elems_swap s' him hlm).trans hPm
        have hLs := lesser_any b0 B O gH m cap nx (swapF s' i nx) _ (by omega) (by omega) hM2
        go_wp2_with (first | (go_at_call 151; refine hSw.mono ?_; rintro _ w7 ⟨rfl, hw7⟩; rw [← hw7] at hM2 hF2 hLs; clear hw7 hSw) | (go_at_call 150; refine hLs.mono ?_; rintro _ w8 ⟨rfl, q8, hw8'⟩; have hw8 : Hid _ := hw8'; clear hw8'))
        go_roundw
        case rel => exact ⟨nx, _, rfl, rfl, Or.inl hlm, hD2.out, hPm2.out, by rw [hw8.out]; exact hM2.drewN q8, by rw [hw8.out]; exact hF2.trans (HFr.drewN _ B O gH q8)⟩
        case measure => simp [intOf]; omega
end Go.Proofs.YtelickcfodcmaaaGreatDoor

namespace Go.Proofs.YtelickcfodcmaaaGreatDoor
open Go.RowKit

theorem wpList_append_loc {P : Program} (w : World) {ops : Array Oper} {rest : List Oper} {o : Oper} {a : Act} {Q : Exit → Act → World → Prop} (hgd : o.guard = none) (s x : Operand) (t : TypeId)
    (ho : o.op = .call { callee := .builtin .append, args := #[s, x], argTypes := #[t, t] })
    (base : Nat) (e : TypeId) (i : TypeInfo) (z : Value) (size bytes : Nat) (ht : P.underlying t = some (.slice e)) (hi : P.info? e = some i) (hz : i.zero = some z)
    (hsize : i.size = size) (hby : i.bytes = bytes) (hzs : z.cells.size = size) (hsz : 0 < size)
    (v : Value) (n : Nat) (xs : List Value) (hs : a.eval s = v) (hown : w.ownsRow base e size v n xs)
    (ad : Addr) (m c : Nat) (news : List Value) (hx : a.eval x = .slice (some ad) m c) (hl : news.length = m * size) (hnews : ∀ j u, news[j]? = some u → w.cell? (ad.add j) = some u) (h1 : ∀ u ∈ news, u.oneCell' = true)
    (hbound : n + m ≤ maxLen) (hbytes : (n + m) * bytes ≤ 140737488355328) (hbase : base ≤ w.heap.size)
    (h : ∀ v' w', w'.ownsRow base e size v' (n + m) (xs ++ news) → w.grownBy w' v.ownBlock → (v'.ownBlock = v.ownBlock ∨ v'.ownBlock = some w.heap.size) → wpList P ops Q rest (a.put o.dst v') w') : wpList P ops Q (o :: rest) a w := by
  refine wpList_plain hgd fun K hK => ?_
  obtain ⟨v', w', hrun, r1, r2, _, r4⟩ := run_append_own_at (P := P) w base t o.type e i z size bytes ht hi hz hsize hby hzs hsz v n xs hown ad m c news hl hnews h1 hbound hbytes hbase
  unfold Oper.wp
  simp [execOp, ho, resolve, invoke, builtin, hs, hx, hrun, Result.andThen]
  exact hK _ _ (h v' w' r1 r2 r4)

theorem up_new {s : Nat → Int} {n : Nat} (h : IsHeap s n) (x : Int) : UpHeap (fun k => if k = n then x else s k) (n + 1) n := by
  refine ⟨fun k k0 kn kp => ?_, fun k k0 kn kp n0 => by omega⟩
  show (if (k - 1) / 2 = n then x else s ((k - 1) / 2)) ≤ (if k = n then x else s k)
  rw [if_neg (by omega), if_neg kp]
  exact h k k0 (by omega)
theorem elems_new (s : Nat → Int) (n : Nat) (x : Int) : (elems (fun k => if k = n then x else s k) (n + 1)).Perm (x :: elems s n) := by
  have e : elems (fun k => if k = n then x else s k) (n + 1) = elems s n ++ [x] := by
    unfold elems
    rw [List.range_succ, List.map_append]
    congr 1
    · apply List.map_congr_left
      intro k hk
      have := List.mem_range.1 hk
      rw [if_neg (by omega)]
    · simp
  rw [e]
  exact List.perm_append_singleton _ _

/-- only the slice's place in the box, and the row that it was or a new one, have been written -/
structure PFr (w w' : World) (B O : Nat) (row : Option Nat) (gH : Nat) : Prop where
  os : w'.os = w.os
  tape : w'.tape = w.tape
  output : w'.output = w.output
  size : w.heap.size ≤ w'.heap.size
  oth : ∀ k, k < w.heap.size → k ≠ B → some k ≠ row → w'.heap[k]? = w.heap[k]?
  box : ∀ x u, x ≠ O → w.cell? ⟨B, x, none⟩ = some u → w'.cell? ⟨B, x, none⟩ = some u ∧ w'.frozen? ⟨B, x, none⟩ = w.frozen? ⟨B, x, none⟩
  loc : some gH = row ∨ w.heap.size ≤ gH

set_option maxRecDepth 20000 in
set_option maxHeartbeats 8000000 in
theorem push_any (b0 B O n : Nat) (v : Value) (s : Nat → Int) (x : Int) (w : World) (hn : n ≤ 100) (hb0 : b0 ≤ w.heap.size) (h0 : w.cell? ⟨B, O, none⟩ = some v) (hz : w.frozen? ⟨B, O, none⟩ = false) (ho : w.ownsRow b0 3 1 v n (numCells s n)) (hBv : v.ownBlock ≠ some B) (hH : IsHeap s n) :
    Calls Tryz.prog 152 #[.pointer (some ⟨B, O, none⟩), .int .i64 x] w fun e w' => e = .returned (.tuple #[]) ∧ ∃ gH cap s', HeapM b0 w' B O gH (n + 1) cap s' ∧ IsHeap s' (n + 1) ∧ (elems s' (n + 1)).Perm (x :: elems s n) ∧ PFr w w' B O v.ownBlock gH ∧ w'.frozen? ⟨B, O, none⟩ = false := by
  obtain ⟨i0, hi, hz0, hz1, hz2⟩ := info_parts Tryz.infoInt
  have lB := ltCell h0
  dsimp only at lB
  go_enter Tryz.func152, Tryz.ntmps152
  go_wp2_with (at_builtin; refine wpList_append_loc _ rfl _ _ 23 rfl b0 3 i0 _ 1 8 Tryz.underlying23 hi hz0 hz1 hz2 rfl (by decide) _ _ _ rfl (ho.alloc _) ⟨w.heap.size, 0, none⟩ 1 1 [.int .i64 x] rfl rfl cells1_lie one1 (by unfold maxLen; omega) (by omega) (by simp only [World.size_alloc]; omega) ?_)
  intro v' w6 hown hgr hloc
  have hA := b1 w (.cells #[.int .i64 x] 3)
  have hsA : (w.alloc (.cells #[.int .i64 x] 3)).heap.size = w.heap.size + 1 := by simp
  obtain ⟨gH, cap, rfl⟩ := Joins.ownsRow_form hown (by omega)
  have hgB : B ≠ gH := by
    rcases hloc with e | e
    · intro e2; exact hBv (by rw [← e]; simp [Value.ownBlock, e2])
    · simp only [Value.ownBlock, Option.some.injEq] at e; omega
  have hbk : w6.heap[B]? = (w.alloc (.cells #[.int .i64 x] 3)).heap[B]? := hgr.block B (by omega) (fun e => hBv e.symm)
  have cb : ∀ o u, w.cell? ⟨B, o, none⟩ = some u → w6.cell? ⟨B, o, none⟩ = some u := fun o u hu => (World.cell?_of_block (w := w.alloc (.cells #[.int .i64 x] 3)) (w' := w6) (a := ⟨B, o, none⟩) hbk).trans (cellLater hA hu)
  have zb : ∀ o u, w.cell? ⟨B, o, none⟩ = some u → w6.frozen? ⟨B, o, none⟩ = w.frozen? ⟨B, o, none⟩ := fun o u hu => (World.frozen?_of_block (w := w.alloc (.cells #[.int .i64 x] 3)) (w' := w6) (a := ⟨B, o, none⟩) hbk).trans (hA.frozen (ltCell hu))
  have m0 := cb O _ h0
  have mz := (zb O _ h0).trans hz
  have hcells : numCells s n ++ [.int .i64 x] = numCells (fun k => if k = n then x else s k) (n + 1) := numCells_ext (by rw [List.length_append, numCells_len]; rfl) (fun k hk => by
    by_cases e : k = n
    · subst e
      rw [List.getElem?_append_right (by rw [numCells_len]; omega), numCells_len]
      simp
    · rw [List.getElem?_append_left (by rw [numCells_len]; omega), numCells_at s n k (by omega), if_neg e])
  rw [hcells] at hown
  have hM7 : HeapM b0 (w6.setCell ⟨B, O, none⟩ (.slice (some ⟨gH, 0, none⟩) (n + 1) cap)) B O gH (n + 1) cap (fun k => if k = n then x else s k) :=
    ⟨World.cell?_setCell_same _ _ _ m0, ownsRow_same hown (fun k hk => Below.heap_setCell _ ⟨B, O, none⟩ _ k (by simp only [Value.ownBlock, Option.some.injEq] at hk; dsimp only; omega)), hgB⟩
  have hP7 : PFr w (w6.setCell ⟨B, O, none⟩ (.slice (some ⟨gH, 0, none⟩) (n + 1) cap)) B O v.ownBlock gH := by
    refine ⟨hgr.os, hgr.tape, hgr.output, by have := hgr.size; simp; omega, fun k h1 h2 h3 => ?_, fun y u hy hu => ⟨(cell_set_ne (fun e => hy e.symm)).trans (cb y u hu), (World.frozen?_setCell _ _ _ _).trans (zb y u hu)⟩, ?_⟩
    · exact (Below.heap_setCell _ ⟨B, O, none⟩ _ k h2).trans ((hgr.block k (by omega) h3).trans (hA.block k h1))
    · rcases hloc with e | e
      · exact Or.inl (by rw [← e]; rfl)
      · refine Or.inr ?_
        simp only [Value.ownBlock, Option.some.injEq] at e
        omega
  have hz7 : (w6.setCell ⟨B, O, none⟩ (.slice (some ⟨gH, 0, none⟩) (n + 1) cap)).frozen? ⟨B, O, none⟩ = false := (World.frozen?_setCell _ _ _ _).trans mz
  have hup : Hid _ := up_new hH x
  have hpm : Hid _ := elems_new s n x
  have hM7' : Hid _ := hM7
  have hP7' : Hid _ := hP7
  have hz7' : Hid _ := hz7
  clear hM7 hP7 hz7 hown hgr hloc hbk cb zb hcells hA hsA h0 hz ho
  go_wp2
  go_loopw [4] (fun ii wr => ∃ (i : Nat) (s' : Nat → Int), ii = .int .i64 i ∧ i < n + 1 ∧ UpHeap s' (n + 1) i ∧ (elems s' (n + 1)).Perm (x :: elems s n) ∧ HeapM b0 wr B O gH (n + 1) cap s' ∧ HFr (w6.setCell ⟨B, O, none⟩ (.slice (some ⟨gH, 0, none⟩) (n + 1) cap)) wr B O gH) (fun ii _ => (intOf ii).toNat)
  case atStart => exact ⟨n, _, by go_num, by omega, hup.out, hpm.out, hM7'.out, HFr.refl _ _ _ _⟩
  case round =>
    obtain ⟨i, s', rfl, hin, hU, hPm, hM, hF⟩ := hrel
    have hsl := hM.sl
    have hend : IsHeap s' (n + 1) → (∀ q, ∃ gH cap s', HeapM b0 (wr.drewN q) B O gH (n + 1) cap s' ∧ IsHeap s' (n + 1) ∧ (elems s' (n + 1)).Perm (x :: elems s n) ∧ PFr w (wr.drewN q) B O v.ownBlock gH ∧ (wr.drewN q).frozen? ⟨B, O, none⟩ = false) := fun hi q => by
      have hF' := hF.trans (HFr.drewN wr B O gH q)
      have hP := hP7'.out
      refine ⟨gH, cap, s', hM.drewN q, hi, hPm, ⟨hF'.os.trans hP.os, hF'.tape.trans hP.tape, hF'.output.trans hP.output, by have := hP.size; have := hF'.size; omega, fun k h1 h2 h3 => ?_, fun y u hy hu => ?_, hP.loc⟩, ?_⟩
      · refine (hF'.oth k (fun e => ?_) h2).trans (hP.oth k h1 h2 h3)
        subst e
        rcases hP.loc with h4 | h4
        · exact h3 h4
        · omega
      · obtain ⟨h4, h5⟩ := hP.box y u hy hu
        exact ⟨(hF'.box y hy).trans h4, (hF'.fz B y).trans h5⟩
      · exact (hF'.fz B O).trans hz7'.out
    have hend' : Hid _ := hend
    clear hend
    by_cases hi0 : 0 < i
    · have hi0' : (0 : Int) < (i : Int) := by omega
      have hi0d : decide ((0 : Int) < (i : Int)) = true := decide_eq_true hi0'
      have hin' : (i : Int) < (n : Int) + 1 := by omega
      have hii0 : (0 : Int) ≤ (i : Int) := by omega
      have hpl : (i - 1) / 2 < n + 1 := by omega
      have hw1 : IntKind.i64.wrap ((i : Int) - 1) = (i : Int) - 1 := by rw [IntKind.wrap_i64]; omega
      have hq1 : ((i : Int) - 1).tdiv 2 = (((i - 1) / 2 : Nat) : Int) := by
        have e : ((i : Int) - 1) = ((i - 1 : Nat) : Int) := by omega
        rw [e, Int.tdiv_eq_ediv_of_nonneg (by omega)]
        omega
      have c1 := (hM.at_ i hin).1
      have c2 := (hM.at_ _ hpl).1
      generalize hpp : (i - 1) / 2 = pp at *
      have hpp' : Hid _ := hpp
      clear hpp
      have hpl' : (pp : Int) < (n : Int) + 1 := by omega
      have hpp0 : (0 : Int) ≤ (pp : Int) := by omega
      by_cases hc : s' i < s' pp
      · have hcd : decide (s' i < s' pp) = true := decide_eq_true hc
        have hU2 : Hid (UpHeap (swapF s' i pp) (n + 1) pp) := by have h1 := hU.step hin hi0 (by rw [hpp'.out]; exact hc); rw [hpp'.out] at h1; exact h1
        have hSw := fun V (hV : HeapM b0 V B O gH (n + 1) cap s') => swapI_any B O gH (n + 1) cap i pp (s' i) (s' pp) V hin hpl (by omega) hV.sl (hV.at_ i hin).1 (hV.at_ pp hpl).1 (hV.at_ i hin).2 (hV.at_ pp hpl).2
        have hPm2 : Hid _ := (elems_swap s' hin hpl).trans hPm
        have hMF : Hid (∀ q, HeapM b0 (wr.drewN q) B O gH (n + 1) cap s' ∧ HFr (w6.setCell ⟨B, O, none⟩ (.slice (some ⟨gH, 0, none⟩) (n + 1) cap)) (wr.drewN q) B O gH) := fun q => ⟨hM.drewN q, hF.trans (HFr.drewN wr B O gH q)⟩
        have hltp : Hid (pp < i) := by have := hpp'.out; exact (by omega : pp < i)
        clear hM hF hU hPm
        go_wp2
        go_quiet (fail)
        rename_i nq
        have hM1 := (hMF.out nq).1
        have hSw1 := hSw _ hM1
        have hM2 := hM1.swap hin hpl
        have hF2 := (hMF.out nq).2.trans (HFr.swap (O := O) hM1.ne i pp (.int .i64 (s' pp)) (.int .i64 (s' i)))
        clear hSw hM1 hMF
        go_wp2_with (go_at_call 151; refine hSw1.mono ?_; rintro _ w7 ⟨rfl, hw7⟩; rw [← hw7] at hM2 hF2; clear hw7 hSw1)
        go_roundw
        case rel => exact ⟨pp, _, rfl, hpl, hU2.out, hPm2.out, hM2, hF2⟩
        case measure => have := hltp.out; simp [intOf]; omega
      · have hcd : decide (s' i < s' pp) = false := decide_eq_false hc
        have hdone : IsHeap s' (n + 1) := hU.done (Or.inr (by rw [hpp'.out]; omega))
        have hdone' : Hid _ := hdone
        clear hdone
        go_wp2
        go_quiet (fail)
        go_wp2
        go_end0
        exact ⟨rfl, hend'.out hdone'.out _⟩
    · have hi0' : ¬ ((0 : Int) < (i : Int)) := by omega
      have hi0d : decide ((0 : Int) < (i : Int)) = false := decide_eq_false hi0'
      have hdone : IsHeap s' (n + 1) := hU.done (Or.inl (by omega))
      have hdone' : Hid _ := hdone
      clear hdone
      go_wp2
      go_quiet (fail)
      go_wp2
      go_end0
      exact ⟨rfl, hend'.out hdone'.out _⟩
end Go.Proofs.YtelickcfodcmaaaGreatDoor

namespace Go.Proofs.YtelickcfodcmaaaGreatDoor

def cntGe (L : List Int) (t : Int) : Nat := L.countP fun e => decide (t ≤ e)
theorem cntGe_perm {L M : List Int} (h : L.Perm M) (t : Int) : cntGe L t = cntGe M t := h.countP_eq _
theorem cntGe_cons (p : Int) (L : List Int) (t : Int) : cntGe (p :: L) t = cntGe L t + (if t ≤ p then 1 else 0) := by
  unfold cntGe
  rw [List.countP_cons]
  simp
theorem cntGe_all {L : List Int} {t : Int} (h : ∀ x ∈ L, t ≤ x) : cntGe L t = L.length := by
  unfold cntGe
  rw [List.countP_eq_length]
  exact fun x hx => decide_eq_true (h x hx)
theorem cntGe_le (L : List Int) (t : Int) : cntGe L t ≤ L.length := List.countP_le_length
theorem elems_len (s : Nat → Int) (n : Nat) : (elems s n).length = n := by simp [elems]
theorem elems_mem {s : Nat → Int} {n : Nat} {x : Int} : x ∈ elems s n ↔ ∃ k, k < n ∧ s k = x := by simp [elems]

/-- of the ends L, L' are left; from t0 on up to T the station is full, and from T on nothing that was taken out counts -/
structure SF (t0 E room : Int) (L : List Int) (T : Int) (L' : List Int) : Prop where
  lo : t0 ≤ T
  full : ∀ u, t0 ≤ u → u < T → room ≤ E + (cntGe L u : Int)
  keep : ∀ t, T ≤ t → cntGe L t = cntGe L' t
  mem : ∀ x ∈ L', x ∈ L
theorem SF.start (t0 E room : Int) (L : List Int) : SF t0 E room L t0 L := ⟨Int.le_refl _, fun u h1 h2 => by omega, fun _ _ => rfl, fun _ h => h⟩
theorem SF.step {t0 E room : Int} {L : List Int} {T : Int} {L' L2 : List Int} (h : SF t0 E room L T L') (p : Int) (hp : L'.Perm (p :: L2)) (hl : ∀ x ∈ L', p ≤ x) (hf : room ≤ E + (L'.length : Int)) : SF t0 E room L (if T < p + 1 then p + 1 else T) L2 := by
  refine ⟨by have := h.lo; split <;> omega, fun u h1 h2 => ?_, fun t ht => ?_, fun x hx => h.mem x (hp.mem_iff.2 (List.mem_cons_of_mem _ hx))⟩
  · rcases Int.lt_or_le u T with h3 | h3
    · exact h.full u h1 h3
    · have h4 : u ≤ p := by split at h2 <;> omega
      rw [h.keep u h3, cntGe_all (fun x hx => Int.le_trans h4 (hl x hx))]
      exact hf
  · have h3 : T ≤ t ∧ ¬ t ≤ p := by split at ht <;> omega
    rw [h.keep t h3.1, cntGe_perm hp, cntGe_cons, if_neg h3.2, Nat.add_zero]
theorem SF.free {t0 E room : Int} {L : List Int} {T : Int} {L' : List Int} (h : SF t0 E room L T L') (hf : E + (L'.length : Int) < room) : E + (cntGe L T : Int) < room := by
  have := cntGe_le L' T
  rw [h.keep T (Int.le_refl _)]
  omega
end Go.Proofs.YtelickcfodcmaaaGreatDoor

namespace Go.Proofs.YtelickcfodcmaaaGreatDoor
open Go.RowKit

theorem Tryz.zeroRoom (w : World) : (zeroValue 171).run Tryz.prog w = .ok (.agg #[.int .i64 0, .slice none 0 0]) w := by kernel_rfl

set_option maxRecDepth 20000 in
set_option maxHeartbeats 4000000 in
theorem sizeI_any (B O n cap : Nat) (va : Option Addr) (w : World) (h0 : w.cell? ⟨B, O, none⟩ = some (.slice va n cap)) :
    Calls Tryz.prog 107 #[.pointer (some ⟨B, O, none⟩)] w fun e w' => e = .returned (.int .i64 n) ∧ w' = w := by
  go_enter Tryz.func107, Tryz.ntmps107
  go_wp2
  go_ret
  exact ⟨rfl, rfl⟩

def lenAt (W : World) (p : Addr) : Nat := match W.cell? p with | some (.slice _ n _) => n | _ => 0
/-- only the room's box and the row of its ends have been written -/
structure RFr (w w' : World) (row : Option Nat) (bS : Nat) : Prop where
  os : w'.os = w.os
  tape : w'.tape = w.tape
  output : w'.output = w.output
  size : w.heap.size ≤ w'.heap.size
  oth : ∀ k, k < w.heap.size → k ≠ bS → some k ≠ row → w'.heap[k]? = w.heap[k]?
/-- as the station's look goes on: m of the ends are left -/
structure RIn (b0 : Nat) (w wr : World) (E : Int) (va : Option Addr) (vc ne m : Nat) (s : Nat → Int) : Prop where
  c0 : wr.cell? ⟨w.heap.size, 0, none⟩ = some (.int .i64 E)
  c1 : wr.cell? ⟨w.heap.size, 1, none⟩ = some (.slice va m vc)
  z1 : wr.frozen? ⟨w.heap.size, 1, none⟩ = false
  own : wr.ownsRow b0 3 1 (.slice va m vc) m (numCells s m)
  os : wr.os = w.os
  tape : wr.tape = w.tape
  output : wr.output = w.output
  size : wr.heap.size = w.heap.size + 1
  oth : ∀ k, k < w.heap.size → some k ≠ (Value.slice va ne vc).ownBlock → wr.heap[k]? = w.heap[k]?
theorem RIn.drewN {b0 : Nat} {w wr : World} {E : Int} {va : Option Addr} {vc ne m : Nat} {s : Nat → Int} (h : RIn b0 w wr E va vc ne m s) (q : Nat) : RIn b0 w (wr.drewN q) E va vc ne m s := ⟨h.c0, h.c1, h.z1, h.own, h.os, h.tape, h.output, h.size, h.oth⟩
theorem RIn.cell {b0 : Nat} {w wr : World} {E : Int} {va : Option Addr} {vc ne m : Nat} {s : Nat → Int} (h : RIn b0 w wr E va vc ne m s) {k o : Nat} {u : Value} (hu : w.cell? ⟨k, o, none⟩ = some u) (hr : some k ≠ (Value.slice va ne vc).ownBlock) : wr.cell? ⟨k, o, none⟩ = some u :=
  (World.cell?_of_block (w := w) (w' := wr) (a := ⟨k, o, none⟩) (h.oth k (ltCell hu) hr)).trans hu

theorem RIn.pop {b0 : Nat} {w wr w' : World} {E : Int} {gH vc ne m m2 : Nat} {s s2 : Nat → Int} (h : RIn b0 w wr E (some ⟨gH, 0, none⟩) vc ne m s) (hM : HeapM b0 w' w.heap.size 1 gH m2 vc s2) (hF : HFr wr w' w.heap.size 1 gH) : RIn b0 w w' E (some ⟨gH, 0, none⟩) vc ne m2 s2 :=
  ⟨(hF.box 0 (by decide)).trans h.c0, hM.sl, (hF.fz _ _).trans h.z1, hM.own, hF.os.trans h.os, hF.tape.trans h.tape, hF.output.trans h.output, hF.size.trans h.size, fun k hk hr => (hF.oth k (fun e => hr (by rw [e]; rfl)) (by omega)).trans (h.oth k hk hr)⟩

set_option maxRecDepth 20000 in
set_option maxHeartbeats 4000000 in
theorem stationFree_any (b0 b bS n : Nat) (a : Option Addr) (len cap : Nat) (g : Nat → Int) (m : Int → Value) (k : Nat) (t0 : Int) (E : Int) (va : Option Addr) (vc : Nat) (ne : Nat) (s : Nat → Int) (w : World) (hk : k < len) (hlen : len ≤ 100) (hn : n ≤ 1000)
    (h0 : w.cell? ⟨b, 0, none⟩ = some (.slice a len cap)) (hI : IsInts 0 b0 w a len g) (h6 : w.cell? ⟨b, 6, none⟩ = some (.map (some bS))) (hM : KV 3 w bS n (.agg #[.int .i64 0, .slice none 0 0]) m) (hv : m k = .agg #[.int .i64 E, .slice va ne vc])
    (hbr : some b ≠ (Value.slice va ne vc).ownBlock) (hSr : some bS ≠ (Value.slice va ne vc).ownBlock)
    (hE : 0 ≤ E ∧ E ≤ 100) (hne : ne ≤ 100) (ho : w.ownsRow b0 3 1 (.slice va ne vc) ne (numCells s ne)) (hH : IsHeap s ne) (hs : ∀ x ∈ elems s ne, 0 ≤ x ∧ x ≤ 1000000) :
    Calls Tryz.prog 71 #[.pointer (some ⟨b, 0, none⟩), .int .i64 k, .int .i64 t0] w fun e w' =>
      (e = .returned (.tuple #[.int .i64 0, .bool false]) ∧ g k ≤ E ∧ RFr w w' (Value.slice va ne vc).ownBlock bS) ∨
      (∃ T m' s', e = .returned (.tuple #[.int .i64 T, .bool true]) ∧ SF t0 E (g k) (elems s ne) T (elems s' m') ∧ E + (m' : Int) < g k ∧ IsHeap s' m' ∧ m' ≤ ne ∧
        KV 3 w' bS (n + 1) (.agg #[.int .i64 0, .slice none 0 0]) (fun y => if y = (k : Int) then .agg #[.int .i64 E, .slice va m' vc] else m y) ∧ w'.ownsRow b0 3 1 (.slice va m' vc) m' (numCells s' m') ∧ RFr w w' (Value.slice va ne vc).ownBlock bS) := by
  have hwf := wf_small (x := (k : Int)) (by omega) (by omega)
  have hlk := hM.lookup Tryz.underlying3 Tryz.underlying88 (Tryz.zeroRoom _) hwf
  rw [hv] at hlk
  have hk' : (k : Int) < (len : Int) := by omega
  have hk0 : (0 : Int) ≤ (k : Int) := by omega
  obtain ⟨ba, oa, rfl, _, hba, gq⟩ := hI k hk
  have hrow : ∀ q, (Value.slice va ne vc).ownBlock = some q → b0 ≤ q ∧ q < w.heap.size := fun q hq => ho.lt q hq
  have hbar : some ba ≠ (Value.slice va ne vc).ownBlock := fun e => by have := (hrow ba e.symm).1; omega
  have hst : RIn b0 w (w.alloc (.cells #[.int .i64 E, .slice va ne vc] 171)) E va vc ne ne s := by
    have hA := b1 w (.cells #[.int .i64 E, .slice va ne vc] 171)
    have hTb := Go.heap_alloc_new w (.cells #[.int .i64 E, .slice va ne vc] 171)
    refine ⟨by rw [World.cell?_alloc_at _ _ _ _ (by simp)]; rfl, by rw [World.cell?_alloc_at _ _ _ _ (by simp)]; rfl, by rw [World.frozen?_alloc_at _ _ _ _ (by simp)], ho.alloc _, rfl, rfl, rfl, by simp, fun q hq _ => hA.block q hq⟩
  go_enter Tryz.func71, Tryz.ntmps71
  go_wp2
  go_loopw [2] (fun tt wr => ∃ (T : Int) (m' : Nat) (s' : Nat → Int), tt = .int .i64 T ∧ m' ≤ ne ∧ IsHeap s' m' ∧ SF t0 E (g k) (elems s ne) T (elems s' m') ∧ RIn b0 w wr E va vc ne m' s') (fun _ wr => lenAt wr ⟨w.heap.size, 1, none⟩)
  case atStart => exact ⟨t0, ne, s, rfl, Nat.le_refl _, hH, SF.start _ _ _ _, hst⟩
  case round =>
    obtain ⟨T, m', s', rfl, hm, hH', hSF, hIn⟩ := hrel
    have hsz := fun q => sizeI_any w.heap.size 1 m' vc va (wr.drewN q) hIn.c1
    have d0 := hIn.c0
    have d1 := hIn.c1
    have d2 := hIn.cell h0 hbr
    have d3 := hIn.cell gq hbar
    have hlb : Hid (lenAt wr ⟨w.heap.size, 1, none⟩ = m') := by unfold Hid lenAt; rw [hIn.c1]
    have hw1 : IntKind.i64.wrap (E + (m' : Int)) = E + (m' : Int) := by rw [IntKind.wrap_i64]; omega
    have hIn' : Hid _ := hIn
    have hSF' : Hid _ := hSF
    clear hIn hSF
    by_cases hf : g k ≤ E + (m' : Int)
    · by_cases hm0 : m' = 0
      · subst hm0
        go_wp2
        go_quiet ((go_at_call 107; exact Calls.quiet_of_same (hsz _)))
        go_wp2_with (go_at_call 107; refine (hsz _).mono ?_; rintro _ _ ⟨rfl, rfl⟩)
        refine bodyPost_ret (v := .tuple #[.int .i64 0, .bool false]) (by simp [results, Tryz.results71, go_sem]) rfl (Or.inl ⟨rfl, by omega, ?_⟩)
        exact ⟨hIn'.out.os, hIn'.out.tape, hIn'.out.output, by have := hIn'.out.size; simp; omega, fun q h1 _ h3 => hIn'.out.oth q h1 h3⟩
      · obtain ⟨gH, cc, hva⟩ := Joins.ownsRow_form hIn'.out.own (by omega)
        injection hva with e1 e2 e3
        subst e1
        subst e3
        clear e2
        have hcc : m' ≤ vc := by
          rcases hIn'.out.own.2 with ⟨e, e'⟩ | ⟨g', cap2, cur, e, hb, hg, hnc, _⟩
          · omega
          · injection e with _ _ e3; omega
        have hgl := hrow gH rfl
        have hHM : ∀ q, HeapM b0 (wr.drewN q) w.heap.size 1 gH m' vc s' := fun q => ⟨hIn'.out.c1, hIn'.out.own, by omega⟩
        have hPop := fun q => pop_any b0 w.heap.size 1 gH m' vc s' (wr.drewN q) (by omega) (by omega) hcc (hHM q) hIn'.out.z1 hH'
        have hbd := hs (s' 0) (hSF'.out.mem _ (elems_mem.2 ⟨0, by omega, rfl⟩))
        have hw2 : IntKind.i64.wrap (s' 0 + 1) = s' 0 + 1 := by rw [IntKind.wrap_i64]; omega
        have hm0' : ((m' : Int) == 0) = false := by simp; omega
        have hstep : ∀ s2, (elems s' m').Perm (s' 0 :: elems s2 (m' - 1)) → Hid (SF t0 E (g k) (elems s ne) (if T < s' 0 + 1 then s' 0 + 1 else T) (elems s2 (m' - 1))) := fun s2 h => hSF'.out.step _ h (fun x hx => by obtain ⟨j, hj, rfl⟩ := elems_mem.1 hx; exact hH'.least j hj) (by rw [elems_len]; exact hf)
        by_cases hmx : T < s' 0 + 1
        · rw [if_pos hmx] at hstep
          go_wp2
          go_quiet ((go_at_call 107; exact Calls.quiet_of_same (hsz _)))
          go_wp2_with (first | (go_at_call 107; refine (hsz _).mono ?_; rintro _ _ ⟨rfl, rfl⟩) | (go_at_call 108; refine (hPop _).mono ?_; rintro _ w5 ⟨rfl, s5, hM5, hH5, hP5, hF5⟩))
          go_roundw
          case rel => first | exact ⟨s' 0 + 1, m' - 1, s5, by go_num, by omega, hH5, (hstep s5 hP5).out, (hIn'.out.drewN _).pop hM5 hF5⟩ | ((repeat apply Exists.intro); exact ⟨⟨s' 0 + 1, m' - 1, s5, by go_num, by omega, hH5, (hstep s5 hP5).out, (hIn'.out.drewN _).pop hM5 hF5⟩, rfl⟩)
          case measure => rw [hlb.out]; unfold lenAt; rw [hM5.sl]; dsimp only; omega
        · rw [if_neg hmx] at hstep
          go_wp2
          go_quiet ((go_at_call 107; exact Calls.quiet_of_same (hsz _)))
          go_wp2_with (first | (go_at_call 107; refine (hsz _).mono ?_; rintro _ _ ⟨rfl, rfl⟩) | (go_at_call 108; refine (hPop _).mono ?_; rintro _ w5 ⟨rfl, s5, hM5, hH5, hP5, hF5⟩))
          go_roundw
          case rel => first | exact ⟨T, m' - 1, s5, by go_num, by omega, hH5, (hstep s5 hP5).out, (hIn'.out.drewN _).pop hM5 hF5⟩ | ((repeat apply Exists.intro); exact ⟨⟨T, m' - 1, s5, by go_num, by omega, hH5, (hstep s5 hP5).out, (hIn'.out.drewN _).pop hM5 hF5⟩, rfl⟩)
          case measure => rw [hlb.out]; unfold lenAt; rw [hM5.sl]; dsimp only; omega
    · have hf' : E + (m' : Int) < g k := by omega
      go_wp2
      go_quiet ((go_at_call 107; exact Calls.quiet_of_same (hsz _)))
      rename_i nq
      go_wp2
      have hIq := hIn'.out.drewN (nq + 1)
      have d6 := hIn'.out.cell h6 hbr
      have hKq : KV 3 (wr.drewN (nq + 1)) bS n (.agg #[.int .i64 0, .slice none 0 0]) m := hM.same (hIq.oth bS hM.lt hSr)
      obtain ⟨W', hup, hK', hgr⟩ := hKq.update Tryz.underlying3 Tryz.underlying88 (by unfold maxLen; omega) hwf (.agg #[.int .i64 E, .slice va m' vc])
      go_region
      all_goals
        go_wp2
        refine bodyPost_ret (v := .tuple #[.int .i64 T, .bool true]) (by simp [results, Tryz.results71, go_sem]) rfl (Or.inr ⟨T, m', s', rfl, hSF'.out, hf', hH', hm, hK', ?_, ?_⟩)
        · refine ownsRow_same hIq.own (fun q hq => ?_)
          have eo : (Value.slice va m' vc).ownBlock = (Value.slice va ne vc).ownBlock := by cases va <;> rfl
          have hq2 := hrow q (eo.symm.trans hq)
          exact hgr.block q (by rw [hIq.size]; omega) (fun e => hSr (by rw [← eo, hq]; exact e.symm))
        · exact ⟨hgr.os.trans hIq.os, hgr.tape.trans hIq.tape, hgr.output.trans hIq.output, by have := hgr.size; have := hIq.size; omega, fun q h1 h2 h3 => (hgr.block q (by rw [hIq.size]; omega) (fun e => h2 (by injection e))).trans (hIq.oth q h1 h3)⟩
end Go.Proofs.YtelickcfodcmaaaGreatDoor

namespace Go.Proofs.YtelickcfodcmaaaGreatDoor
open Go.RowKit

set_option maxRecDepth 20000 in
set_option maxHeartbeats 4000000 in
theorem enter_any (b bS n : Nat) (m : Int → Value) (k : Nat) (E : Int) (va : Option Addr) (vc : Nat) (ne : Nat) (w : World) (hk : k ≤ 100) (hn : n ≤ 1000)
    (h6 : w.cell? ⟨b, 6, none⟩ = some (.map (some bS))) (hM : KV 3 w bS n (.agg #[.int .i64 0, .slice none 0 0]) m) (hv : m k = .agg #[.int .i64 E, .slice va ne vc]) (hE : 0 ≤ E ∧ E ≤ 100) :
    Calls Tryz.prog 110 #[.pointer (some ⟨b, 0, none⟩), .int .i64 k] w fun e w' => e = .returned (.tuple #[]) ∧
        KV 3 w' bS (n + 1) (.agg #[.int .i64 0, .slice none 0 0]) (fun y => if y = (k : Int) then .agg #[.int .i64 (E + 1), .slice va ne vc] else m y) ∧ RFr w w' none bS := by
  have hwf := wf_small (x := (k : Int)) (by omega) (by omega)
  have hlk := hM.lookup Tryz.underlying3 Tryz.underlying88 (Tryz.zeroRoom _) hwf
  rw [hv] at hlk
  have hw1 : IntKind.i64.wrap (E + 1) = E + 1 := by rw [IntKind.wrap_i64]; omega
  go_enter Tryz.func110, Tryz.ntmps110
  have hA := b1 w (.cells #[.int .i64 (E + 1), .slice va ne vc] 171)
  have hTb := Go.heap_alloc_new w (.cells #[.int .i64 (E + 1), .slice va ne vc] 171)
  go_wp2
  have c0 := cell_of_row _ w.heap.size 0 _ _ _ hTb
  have c1 := cell_of_row _ w.heap.size 1 _ _ _ hTb
  simp at c0 c1
  have d6 := cellLater hA h6
  have hKq : KV 3 (w.alloc (.cells #[.int .i64 (E + 1), .slice va ne vc] 171)).drew bS n (.agg #[.int .i64 0, .slice none 0 0]) m := hM.same (hA.block bS hM.lt)
  obtain ⟨W', hup, hK', hgr⟩ := hKq.update Tryz.underlying3 Tryz.underlying88 (by unfold maxLen; omega) hwf (.agg #[.int .i64 (E + 1), .slice va ne vc])
  go_region
  all_goals
    go_wp2
    go_end0
    refine ⟨rfl, hK', hgr.os, hgr.tape, hgr.output, by have := hgr.size; have := hA.size; simp at *; omega, fun q h1 h2 _ => (hgr.block q (by simp; omega) (fun e => h2 (by injection e))).trans (hA.block q h1)⟩

set_option maxRecDepth 20000 in
set_option maxHeartbeats 4000000 in
theorem leave_any (b0 b bS n : Nat) (m : Int → Value) (k : Nat) (x : Int) (E : Int) (va : Option Addr) (vc : Nat) (ne : Nat) (s : Nat → Int) (w : World) (hk : k ≤ 100) (hn : n ≤ 1000) (hb0 : b0 ≤ w.heap.size)
    (h6 : w.cell? ⟨b, 6, none⟩ = some (.map (some bS))) (hM : KV 3 w bS n (.agg #[.int .i64 0, .slice none 0 0]) m) (hv : m k = .agg #[.int .i64 E, .slice va ne vc]) (hE : 0 ≤ E ∧ E ≤ 100)
    (hbr : some b ≠ (Value.slice va ne vc).ownBlock) (hSr : some bS ≠ (Value.slice va ne vc).ownBlock) (hne : ne ≤ 100) (ho : w.ownsRow b0 3 1 (.slice va ne vc) ne (numCells s ne)) (hH : IsHeap s ne) :
    Calls Tryz.prog 109 #[.pointer (some ⟨b, 0, none⟩), .int .i64 k, .int .i64 x] w fun e w' => e = .returned (.tuple #[]) ∧ ∃ gH cap s', IsHeap s' (ne + 1) ∧ (elems s' (ne + 1)).Perm (x :: elems s ne) ∧
        KV 3 w' bS (n + 1) (.agg #[.int .i64 0, .slice none 0 0]) (fun y => if y = (k : Int) then .agg #[.int .i64 (E - 1), .slice (some ⟨gH, 0, none⟩) (ne + 1) cap] else m y) ∧ w'.ownsRow b0 3 1 (.slice (some ⟨gH, 0, none⟩) (ne + 1) cap) (ne + 1) (numCells s' (ne + 1)) ∧
        (some gH = (Value.slice va ne vc).ownBlock ∨ w.heap.size ≤ gH) ∧ RFr w w' (Value.slice va ne vc).ownBlock bS := by
  have hwf := wf_small (x := (k : Int)) (by omega) (by omega)
  have hlk := hM.lookup Tryz.underlying3 Tryz.underlying88 (Tryz.zeroRoom _) hwf
  rw [hv] at hlk
  have hw1 : IntKind.i64.wrap (E - 1) = E - 1 := by rw [IntKind.wrap_i64]; omega
  have hA := b1 w (.cells #[.int .i64 (E - 1), .slice va ne vc] 171)
  have hrow : ∀ q, (Value.slice va ne vc).ownBlock = some q → b0 ≤ q ∧ q < w.heap.size := fun q hq => ho.lt q hq
  have hPu := push_any b0 w.heap.size 1 ne (.slice va ne vc) s x (w.alloc (.cells #[.int .i64 (E - 1), .slice va ne vc] 171)) hne (by simp; omega) (by rw [World.cell?_alloc_at _ _ _ _ (by simp)]; rfl) (by rw [World.frozen?_alloc_at _ _ _ _ (by simp)]) (ho.alloc _) (fun e => by have := (hrow _ e).2; omega) hH
  go_enter Tryz.func109, Tryz.ntmps109
  go_wp2_with (go_at_call 152; refine hPu.mono ?_; rintro _ w5 ⟨rfl, gH, cap, s', hM5, hH5, hP5, hF5, hz5⟩)
  have hsA : (w.alloc (.cells #[.int .i64 (E - 1), .slice va ne vc] 171)).heap.size = w.heap.size + 1 := by simp
  have v0 : (w.alloc (.cells #[.int .i64 (E - 1), .slice va ne vc] 171)).cell? ⟨w.heap.size, 0, none⟩ = some (.int .i64 (E - 1)) := by rw [World.cell?_alloc_at _ _ _ _ (by simp)]; rfl
  have c0 := (hF5.box 0 _ (by decide) v0).1
  have c1 := hM5.sl
  have lb := ltCell h6
  have lS := hM.lt
  dsimp only at lb
  have hob := hF5.oth b (by omega) (by omega) hbr
  have hoS := (hF5.oth bS (by omega) (by omega) hSr).trans (hA.block bS lS)
  have d6 := (World.cell?_of_block (w := w.alloc (.cells #[.int .i64 (E - 1), .slice va ne vc] 171)) (w' := w5) (a := ⟨b, 6, none⟩) hob).trans (cellLater hA h6)
  have hKq : KV 3 w5.drew bS n (.agg #[.int .i64 0, .slice none 0 0]) m := hM.same hoS
  obtain ⟨W', hup, hK', hgr⟩ := hKq.update Tryz.underlying3 Tryz.underlying88 (by unfold maxLen; omega) hwf (.agg #[.int .i64 (E - 1), .slice (some ⟨gH, 0, none⟩) (ne + 1) cap])
  have hgS : gH ≠ bS := by
    rcases hF5.loc with e | e
    · intro e2; exact hSr (by rw [← e, e2])
    · omega
  have hgl := (hM5.own.lt gH rfl).2
  have hfin : Hid (W'.ownsRow b0 3 1 (.slice (some ⟨gH, 0, none⟩) (ne + 1) cap) (ne + 1) (numCells s' (ne + 1)) ∧ (some gH = (Value.slice va ne vc).ownBlock ∨ w.heap.size ≤ gH) ∧ RFr w W' (Value.slice va ne vc).ownBlock bS) := by
    refine ⟨ownsRow_same hM5.own (fun q hq => ?_), ?_, hgr.os.trans hF5.os, hgr.tape.trans hF5.tape, hgr.output.trans hF5.output, ?_, fun q h1 h2 h3 => ?_⟩
    · simp only [Value.ownBlock, Option.some.injEq] at hq
      subst hq
      exact hgr.block _ hgl (fun e => hgS (by injection e))
    · rcases hF5.loc with e | e
      · exact Or.inl e
      · exact Or.inr (by omega)
    · have h1 := hgr.size; have h2 := hF5.size; have h3 : w5.drew.heap.size = w5.heap.size := rfl; omega
    · have h4 := hF5.size
      exact (hgr.block q (by show q < w5.heap.size; omega) (fun e => h2 (by injection e))).trans ((hF5.oth q (by omega) (by omega) h3).trans (hA.block q h1))
  clear hoS hob hsA v0 hF5 hgr
  go_region
  all_goals
    go_wp2
    go_end0
    exact ⟨rfl, gH, cap, s', hH5, hP5, hK', hfin.out⟩
end Go.Proofs.YtelickcfodcmaaaGreatDoor

namespace Go.Proofs.YtelickcfodcmaaaGreatDoor
open Go.RowKit

theorem leaveO_more {f : Nat → TrainD} {P : Nat → RowD} {i : Nat} {t : Int} {j m : Nat} (h : j ≠ i ∨ m + 1 < (P i).n) : leaveO f (moreP P i t) j m = leaveO f P j m := by
  by_cases e : j = i
  · subst e
    have hm := h.resolve_left (fun h => h rfl)
    unfold leaveO
    rw [moreP_n, if_pos (by omega), if_pos hm, moreP_old hm]
  · unfold leaveO
    rw [moreP_other e]
theorem thereRow_old {f : Nat → TrainD} {P : Nat → RowD} {i : Nat} {t x t' : Int} {j : Nat} : ∀ n, (j ≠ i ∨ n < (P i).n ∨ n = 0) → thereRow f (moreP P i t) x t' j n = thereRow f P x t' j n
  | 0, _ => rfl
  | n + 1, h => by
    simp only [thereRow]
    rw [thereRow_old n (by omega)]
    congr 1
    unfold hereB
    rw [leaveO_more (by omega)]
theorem thereRow_new {f : Nat → TrainD} {P : Nat → RowD} {i : Nat} {t x t' : Int} (hk : (P i).n < (f i).nl) : (thereRow f (moreP P i t) x t' i ((P i).n + 1) : Int) = (thereRow f P x t' i (P i).n : Int)
    + (if 0 < (P i).n ∧ ((f i).leg ((P i).n - 1)).to = x then (if t' ≤ t then 0 else -1) else 0)
    + (if ((f i).leg (P i).n).to = x then (if (P i).n + 1 < (f i).nl then 1 else if t' ≤ t + ((f i).leg (P i).n).run then 1 else 0) else 0) := by
  have hlast : leaveO f (moreP P i t) i (P i).n = if (P i).n + 1 < (f i).nl then none else some (t + ((f i).leg (P i).n).run) := by
    unfold leaveO
    rw [moreP_n, if_neg (by omega), moreP_new]
  have h1 : (thereRow f (moreP P i t) x t' i (P i).n : Int) = (thereRow f P x t' i (P i).n : Int) + (if 0 < (P i).n ∧ ((f i).leg ((P i).n - 1)).to = x then (if t' ≤ t then 0 else -1) else 0) := by
    cases hn : (P i).n with
    | zero => simp [thereRow]
    | succ k =>
      simp only [thereRow, Nat.add_sub_cancel]
      rw [thereRow_old (P := P) (i := i) k (by omega)]
      have e1 : leaveO f (moreP P i t) i k = some t := by
        have h2 := moreP_new (P := P) (i := i) (t := t)
        rw [hn] at h2
        unfold leaveO
        rw [moreP_n, hn, if_pos (by omega), h2]
      have e2 : leaveO f P i k = none := by
        unfold leaveO
        rw [hn, if_neg (by omega), if_pos (by omega)]
      unfold hereB
      rw [e1, e2]
      by_cases hx : ((f i).leg k).to = x
      · by_cases ht : t' ≤ t
        · simp [hx, ht]
        · simp [hx, ht]; omega
      · simp [hx]
  simp only [thereRow]
  rw [Int.natCast_add, h1]
  congr 1
  unfold hereB
  rw [hlast]
  by_cases hx : ((f i).leg (P i).n).to = x
  · by_cases hl : (P i).n + 1 < (f i).nl
    · simp [hx, hl]
    · by_cases ht : t' ≤ t + ((f i).leg (P i).n).run
      · simp [hx, hl, ht]
      · simp [hx, hl, ht]
  · simp [hx]
theorem thereAll_old {f : Nat → TrainD} {P : Nat → RowD} {i : Nat} {t x t' : Int} : ∀ n, n ≤ i → thereAll f (moreP P i t) x t' n = thereAll f P x t' n
  | 0, _ => rfl
  | n + 1, h => by
    simp only [thereAll]
    rw [thereAll_old n (by omega), thereRow_old _ (Or.inl (by omega)), moreP_other (by omega)]
theorem thereAll_new {f : Nat → TrainD} {P : Nat → RowD} {i : Nat} {t x t' : Int} (hk : (P i).n < (f i).nl) : ∀ n, i < n → (thereAll f (moreP P i t) x t' n : Int) = (thereAll f P x t' n : Int)
    + (if 0 < (P i).n ∧ ((f i).leg ((P i).n - 1)).to = x then (if t' ≤ t then 0 else -1) else 0)
    + (if ((f i).leg (P i).n).to = x then (if (P i).n + 1 < (f i).nl then 1 else if t' ≤ t + ((f i).leg (P i).n).run then 1 else 0) else 0)
  | 0, h => absurd h (Nat.not_lt_zero i)
  | n + 1, h => by
    simp only [thereAll]
    rcases Nat.lt_or_ge i n with h1 | h1
    · rw [Int.natCast_add, thereAll_new hk n h1, thereRow_old _ (Or.inl (by omega)), moreP_other (by omega)]
      omega
    · obtain rfl : i = n := by omega
      rw [Int.natCast_add, thereAll_old i (Nat.le_refl _), moreP_n, thereRow_new hk]
      omega

/-- a board's stations: E for ever, L until then -/
structure SI (np : Nat) (f : Nat → TrainD) (P : Nat → RowD) (last : Int) (E : Int → Int) (L : Int → List Int) : Prop where
  cnt : ∀ x t, last ≤ t → (thereAll f P x t np : Int) = E x + (cntGe (L x) t : Int)
def leaveE (E : Int → Int) (x : Int) : Int → Int := fun y => if y = x then E y - 1 else E y
def enterE (E : Int → Int) (x : Int) : Int → Int := fun y => if y = x then E y + 1 else E y
def leaveL (L : Int → List Int) (x t : Int) : Int → List Int := fun y => if y = x then t :: L y else L y
theorem leaveL_cnt (L : Int → List Int) (y s x t' : Int) : (cntGe (leaveL L y s x) t' : Int) = (cntGe (L x) t' : Int) + (if y = x then (if t' ≤ s then 1 else 0) else 0) := by
  unfold leaveL
  by_cases e : x = y
  · rw [if_pos e, if_pos e.symm, cntGe_cons]
    split <;> simp
  · rw [if_neg e, if_neg (fun h => e h.symm)]
    simp
theorem leaveE_at (E : Int → Int) (y x : Int) : leaveE E y x = E x + (if y = x then -1 else 0) := by
  unfold leaveE
  by_cases e : x = y
  · rw [if_pos e, if_pos e.symm]; omega
  · rw [if_neg e, if_neg (fun h => e h.symm)]; omega
theorem enterE_at (E : Int → Int) (y x : Int) : enterE E y x = E x + (if y = x then 1 else 0) := by
  unfold enterE
  by_cases e : x = y
  · rw [if_pos e, if_pos e.symm]
  · rw [if_neg e, if_neg (fun h => e h.symm)]; omega
theorem SI.start (np : Nat) (f : Nat → TrainD) (last : Int) : SI np f (fun _ => ⟨0, fun _ => 0⟩) last (fun _ => 0) (fun _ => []) := by
  refine ⟨fun x t _ => ?_⟩
  have h : ∀ n, thereAll f (fun _ => ⟨0, fun _ => 0⟩) x t n = 0 := fun n => by
    induction n with
    | zero => rfl
    | succ n ih => simp only [thereAll, thereRow, ih]
  rw [h]; rfl
theorem SI.keep {np : Nat} {f : Nat → TrainD} {P : Nat → RowD} {last t : Int} {E : Int → Int} {L M : Int → List Int} (h : SI np f P last E L) (ht : last ≤ t) (hM : ∀ x u, t ≤ u → cntGe (L x) u = cntGe (M x) u) : SI np f P t E M :=
  ⟨fun x u hu => by rw [← hM x u hu]; exact h.cnt x u (by omega)⟩
/-- a leg is begun, and it is not the train's last -/
theorem SI.go {np : Nat} {f : Nat → TrainD} {P : Nat → RowD} {t : Int} {E : Int → Int} {L : Int → List Int} (h : SI np f P t E L) {i : Nat} (hi : i < np) (hk : (P i).n < (f i).nl)
    {E1 : Int → Int} {L1 : Int → List Int} (h0 : (P i).n = 0 → E1 = E ∧ L1 = L) (h1 : 0 < (P i).n → E1 = leaveE E ((f i).leg ((P i).n - 1)).to ∧ L1 = leaveL L ((f i).leg ((P i).n - 1)).to t) :
    ((P i).n + 1 < (f i).nl → SI np f (moreP P i t) t (enterE E1 ((f i).leg (P i).n).to) L1) ∧
    (¬ (P i).n + 1 < (f i).nl → SI np f (moreP P i t) t (leaveE (enterE E1 ((f i).leg (P i).n).to) ((f i).leg (P i).n).to) (leaveL L1 ((f i).leg (P i).n).to (t + ((f i).leg (P i).n).run))) := by
  have hE : ∀ x u, t ≤ u → E1 x + (cntGe (L1 x) u : Int) = E x + (cntGe (L x) u : Int) + (if 0 < (P i).n ∧ ((f i).leg ((P i).n - 1)).to = x then (if u ≤ t then 0 else -1) else 0) := fun x u _ => by
    rcases Nat.eq_zero_or_pos (P i).n with e | e
    · obtain ⟨rfl, rfl⟩ := h0 e
      rw [if_neg (by omega)]; omega
    · obtain ⟨rfl, rfl⟩ := h1 e
      rw [leaveE_at, leaveL_cnt]
      by_cases hx : ((f i).leg ((P i).n - 1)).to = x
      · simp only [if_pos hx, if_pos (And.intro e hx)]
        split <;> omega
      · have hn : ¬ (0 < (P i).n ∧ ((f i).leg ((P i).n - 1)).to = x) := fun h => hx h.2
        simp only [if_neg hx, if_neg hn]; omega
  refine ⟨fun hl => ⟨fun x u hu => ?_⟩, fun hl => ⟨fun x u hu => ?_⟩⟩
  · have h2 := hE x u hu
    have h3 := h.cnt x u hu
    rw [thereAll_new hk np hi, enterE_at, if_pos hl]
    omega
  · have h2 := hE x u hu
    have h3 := h.cnt x u hu
    rw [thereAll_new hk np hi, leaveE_at, enterE_at, leaveL_cnt, if_neg hl]
    by_cases hx : ((f i).leg (P i).n).to = x
    · simp only [if_pos hx]
      omega
    · simp only [if_neg hx]
      omega
theorem SI.first {np : Nat} {g : Nat → Int} {f : Nat → TrainD} {P : Nat → RowD} {last : Int} {E : Int → Int} {L : Int → List Int} (h : SI np f P last E L) {x low T : Int} {L' : List Int} (hl : last ≤ low) (hS : SF low (E x) (g x.toNat) (L x) T L') (hf : E x + (L'.length : Int) < g x.toNat) : IsFirst np g f P x low T := by
  have h1 := hS.lo
  refine ⟨h1, ?_, fun u h2 h3 => ?_⟩
  · unfold fullAt
    rw [h.cnt x T (by omega)]
    have := hS.free hf
    omega
  · unfold fullAt
    rw [h.cnt x u (by omega)]
    exact hS.full u h2 h3
theorem SI.never {np : Nat} {g : Nat → Int} {f : Nat → TrainD} {P : Nat → RowD} {last : Int} {E : Int → Int} {L : Int → List Int} (h : SI np f P last E L) {x low : Int} (hl : last ≤ low) (hf : g x.toNat ≤ E x) : ∀ t, low ≤ t → fullAt np g f P x t := fun t ht => by
  unfold fullAt
  rw [h.cnt x t (by omega)]
  omega
end Go.Proofs.YtelickcfodcmaaaGreatDoor
