/-
  The trains of a plan in the order in which their legs begin, as plain data: picked one by one, or sorted. The model's Order: what it answers.
-/
import Derived.Test.YtmmkggkneefhoabGreatDoorGroups
import Derived.Test.YtmmkggkneefhoabGreatDoorLateP
import Derived.Test.YtmmkggkneefhoabGreatDoorSpecQ
import Derived.Test.YtmmkggkneefhoabGreatDoorApp
namespace Go.Proofs.YtmmkggkneefhoabGreatDoor
open Go.RowKit

def restRow (P : Nat → RowD) (i a : Nat) : List HoldD := (List.range ((P i).n - a)).map fun j => ⟨i, (P i).s (a + j), 0⟩
def restAll (P : Nat → RowD) (nx : Nat → Nat) : Nat → List HoldD
  | 0 => []
  | i + 1 => restAll P nx i ++ restRow P i (nx i)
def begunRow (P : Nat → RowD) (i : Nat) : Nat → List HoldD
  | 0 => []
  | k + 1 => begunRow P i k ++ [⟨i, (P i).s k, 0⟩]
def begunAll (P : Nat → RowD) : Nat → List HoldD
  | 0 => []
  | i + 1 => begunAll P i ++ begunRow P i (P i).n
theorem begunRow_eq (P : Nat → RowD) (i : Nat) : ∀ k, begunRow P i k = (List.range k).map fun j => ⟨i, (P i).s j, 0⟩
  | 0 => rfl
  | k + 1 => by simp [begunRow, begunRow_eq P i k, List.range_succ]
theorem begunAll_eq (P : Nat → RowD) : ∀ n, begunAll P n = restAll P (fun _ => 0) n
  | 0 => rfl
  | n + 1 => by simp [begunAll, restAll, begunAll_eq P n, begunRow_eq, restRow]
theorem begunRow_len (P : Nat → RowD) (i : Nat) : ∀ k, (begunRow P i k).length = k
  | 0 => rfl
  | k + 1 => by simp [begunRow, begunRow_len P i k]
def rowSum (P : Nat → RowD) : Nat → Nat
  | 0 => 0
  | i + 1 => rowSum P i + (P i).n
theorem begunAll_len (P : Nat → RowD) : ∀ n, (begunAll P n).length = rowSum P n
  | 0 => rfl
  | n + 1 => by simp [begunAll, rowSum, begunAll_len P n, begunRow_len]

/-- by when, then by train -/
def ltH (x y : HoldD) : Bool := decide (x.frm < y.frm ∨ (x.frm = y.frm ∧ x.tr < y.tr))

/-- the train whose next leg begins first, among the first so many; -1 when none has a leg left -/
def bestI (P : Nat → RowD) (nx : Nat → Nat) : Nat → Int
  | 0 => -1
  | i + 1 => if nx i < (P i).n ∧ (bestI P nx i < 0 ∨ (P i).s (nx i) < (P (bestI P nx i).toNat).s (nx (bestI P nx i).toNat)) then (i : Int) else bestI P nx i
def bump (nx : Nat → Nat) (b : Nat) : Nat → Nat := fun i => if i = b then nx i + 1 else nx i
def nxAt (P : Nat → RowD) (n : Nat) : Nat → Nat → Nat
  | 0 => fun _ => 0
  | k + 1 => bump (nxAt P n k) (bestI P (nxAt P n k) n).toNat
def outAt (P : Nat → RowD) (n : Nat) : Nat → List Nat
  | 0 => []
  | k + 1 => outAt P n k ++ [(bestI P (nxAt P n k) n).toNat]
theorem outAt_len (P : Nat → RowD) (n : Nat) : ∀ k, (outAt P n k).length = k
  | 0 => rfl
  | k + 1 => by simp [outAt, outAt_len P n k]

theorem bestI_lt (P : Nat → RowD) (nx : Nat → Nat) : ∀ n, bestI P nx n < n ∧ -1 ≤ bestI P nx n
  | 0 => by simp [bestI]
  | n + 1 => by
    have h := bestI_lt P nx n
    simp only [bestI]
    split
    · omega
    · omega
theorem bestI_none (P : Nat → RowD) (nx : Nat → Nat) : ∀ n, bestI P nx n < 0 → ∀ i, i < n → (P i).n ≤ nx i
  | 0, _, i, h => by omega
  | n + 1, hb, i, hi => by
    simp only [bestI] at hb
    split at hb
    · omega
    · rename_i hc
      by_cases e : i = n
      · subst e
        rcases Nat.lt_or_ge (nx i) (P i).n with h | h
        · exact absurd ⟨h, Or.inl hb⟩ hc
        · exact h
      · exact bestI_none P nx n hb i (by omega)
/-- what is picked has a leg left, and none begins before it, nor at once with a lower number -/
theorem bestI_min (P : Nat → RowD) (nx : Nat → Nat) : ∀ n, 0 ≤ bestI P nx n → nx (bestI P nx n).toNat < (P (bestI P nx n).toNat).n ∧
    ∀ i, i < n → nx i < (P i).n → (P (bestI P nx n).toNat).s (nx (bestI P nx n).toNat) < (P i).s (nx i) ∨ ((P (bestI P nx n).toNat).s (nx (bestI P nx n).toNat) = (P i).s (nx i) ∧ (bestI P nx n).toNat ≤ i)
  | 0, h => by simp [bestI] at h
  | n + 1, h => by
    have hl := bestI_lt P nx n
    simp only [bestI] at h ⊢
    split
    · rename_i hc
      refine ⟨by simpa using hc.1, fun i hi hn => ?_⟩
      simp only [Int.toNat_natCast]
      by_cases e : i = n
      · subst e; right; exact ⟨rfl, Nat.le_refl _⟩
      · rcases hc.2 with h0 | h0
        · have := bestI_none P nx n h0 i (by omega); omega
        · have hb : 0 ≤ bestI P nx n := by
            rcases Int.lt_or_le (bestI P nx n) 0 with h1 | h1
            · have := bestI_none P nx n h1 i (by omega); omega
            · exact h1
          rcases (bestI_min P nx n hb).2 i (by omega) hn with h2 | h2
          · left; omega
          · left; omega
    · rename_i hc
      rw [if_neg hc] at h
      refine ⟨(bestI_min P nx n h).1, fun i hi hn => ?_⟩
      by_cases e : i = n
      · subst e
        have : ¬ ((P i).s (nx i) < (P (bestI P nx i).toNat).s (nx (bestI P nx i).toNat)) := fun h' => hc ⟨hn, Or.inr h'⟩
        rcases Int.lt_or_le ((P (bestI P nx i).toNat).s (nx (bestI P nx i).toNat)) ((P i).s (nx i)) with h2 | h2
        · left; exact h2
        · right; refine ⟨by omega, by omega⟩
      · exact (bestI_min P nx n h).2 i (by omega) hn

theorem restRow_cons {P : Nat → RowD} {i a : Nat} (h : a < (P i).n) : restRow P i a = ⟨i, (P i).s a, 0⟩ :: restRow P i (a + 1) := by
  unfold restRow
  rw [show (P i).n - a = (P i).n - (a + 1) + 1 by omega, List.range_succ_eq_map]
  simp only [List.map_cons, List.map_map, Nat.add_zero, List.cons.injEq, true_and]
  apply List.map_congr_left
  intro j _
  simp only [Function.comp]
  rw [show a + (j + 1) = a + 1 + j by omega]
theorem mem_restRow {P : Nat → RowD} {i a : Nat} {x : HoldD} (h : x ∈ restRow P i a) : ∃ k, a ≤ k ∧ k < (P i).n ∧ x = ⟨i, (P i).s k, 0⟩ := by
  unfold restRow at h
  simp only [List.mem_map, List.mem_range] at h
  obtain ⟨j, hj, rfl⟩ := h
  exact ⟨a + j, by omega, by omega, rfl⟩
theorem mem_restAll {P : Nat → RowD} {nx : Nat → Nat} {x : HoldD} : ∀ {n : Nat}, x ∈ restAll P nx n → ∃ i k, i < n ∧ nx i ≤ k ∧ k < (P i).n ∧ x = ⟨i, (P i).s k, 0⟩
  | 0, h => by simp [restAll] at h
  | n + 1, h => by
    simp only [restAll, List.mem_append] at h
    rcases h with h | h
    · obtain ⟨i, k, h0, h1, h2, h3⟩ := mem_restAll h
      exact ⟨i, k, by omega, h1, h2, h3⟩
    · obtain ⟨k, h1, h2, h3⟩ := mem_restRow h
      exact ⟨n, k, by omega, h1, h2, h3⟩
theorem restAll_congr {P : Nat → RowD} {nx nx' : Nat → Nat} : ∀ {n : Nat}, (∀ i, i < n → nx i = nx' i) → restAll P nx n = restAll P nx' n
  | 0, _ => rfl
  | n + 1, h => by simp only [restAll]; rw [restAll_congr (fun i hi => h i (by omega)), h n (by omega)]
theorem restAll_bump {P : Nat → RowD} {nx : Nat → Nat} {b : Nat} (hb : nx b < (P b).n) : ∀ {n : Nat}, b < n → (restAll P nx n).Perm (⟨b, (P b).s (nx b), 0⟩ :: restAll P (bump nx b) n)
  | 0, h => by omega
  | n + 1, h => by
    simp only [restAll]
    by_cases e : b = n
    · subst e
      rw [restRow_cons hb, show bump nx b b = nx b + 1 by simp [bump], restAll_congr (nx := nx) (nx' := bump nx b) (fun i hi => by simp [bump]; omega)]
      exact List.perm_middle
    · rw [show bump nx b n = nx n by simp [bump]; omega]
      exact (restAll_bump hb (n := n) (by omega)).append_right _

/-- picked one by one they are as sorted -/
theorem out_sorted {P : Nat → RowD} {n : Nat} (hup : ∀ i, i < n → ∀ k, k + 1 < (P i).n → (P i).s k < (P i).s (k + 1)) {L : List HoldD} (hp : L.Perm (begunAll P n)) (hs : L.Pairwise (fun x y => ltH y x = false)) :
    ∀ k, k ≤ L.length → outAt P n k = (L.take k).map HoldD.tr ∧ (L.drop k).Perm (restAll P (nxAt P n k) n)
  | 0, _ => ⟨by simp [outAt], by rw [List.drop_zero]; rw [begunAll_eq] at hp; exact hp⟩
  | k + 1, hk => by
    obtain ⟨h0, h1⟩ := out_sorted hup hp hs k (by omega)
    have hge : ∀ i, i < n → ∀ a d, a + d < (P i).n → (P i).s a ≤ (P i).s (a + d) ∧ (d ≠ 0 → (P i).s a < (P i).s (a + d)) := by
      intro i hi a d
      induction d with
      | zero => intro _; exact ⟨Int.le_refl _, fun h => absurd rfl h⟩
      | succ d ih =>
        intro hd
        have := ih (by omega)
        have := hup i hi (a + d) (by omega)
        rw [show a + (d + 1) = a + d + 1 by omega]
        exact ⟨by omega, fun _ => by omega⟩
    have hd : L.drop k = L[k] :: L.drop (k + 1) := List.drop_eq_getElem_cons (by omega)
    have hx : L[k] ∈ restAll P (nxAt P n k) n := h1.mem_iff.mp (by rw [hd]; exact List.mem_cons_self ..)
    obtain ⟨i, q, hi, hq0, hq1, hxe⟩ := mem_restAll hx
    have hbn : 0 ≤ bestI P (nxAt P n k) n := by
      rcases Int.lt_or_le (bestI P (nxAt P n k) n) 0 with h | h
      · have := bestI_none P (nxAt P n k) n h i hi; omega
      · exact h
    obtain ⟨hb0, hb1⟩ := bestI_min P (nxAt P n k) n hbn
    have hbl := (bestI_lt P (nxAt P n k) n).1
    have hbN : (bestI P (nxAt P n k) n).toNat < n := by omega
    have hpm := restAll_bump (nx := nxAt P n k) hb0 hbN
    have hmem : (⟨(bestI P (nxAt P n k) n).toNat, (P (bestI P (nxAt P n k) n).toNat).s (nxAt P n k (bestI P (nxAt P n k) n).toNat), 0⟩ : HoldD) ∈ L.drop k := h1.mem_iff.mpr (hpm.mem_iff.mpr (List.mem_cons_self ..))
    have hmin := hb1 i hi (by omega)
    have hrow := (hge i hi (nxAt P n k i) (q - nxAt P n k i) (by omega))
    rw [show nxAt P n k i + (q - nxAt P n k i) = q by omega] at hrow
    have hle : ∀ y ∈ L.drop k, ltH y L[k] = false := by
      have hpw : (L.drop k).Pairwise (fun x y => ltH y x = false) := hs.sublist (List.drop_sublist _ _)
      rw [hd] at hpw ⊢
      intro y hy
      rcases List.mem_cons.mp hy with rfl | hy
      · simp [ltH]
      · exact (List.pairwise_cons.mp hpw).1 y hy
    have hk0 := hle _ hmem
    rw [hxe] at hk0
    unfold ltH at hk0
    simp only [decide_eq_false_iff_not] at hk0
    have heq : L[k] = ⟨(bestI P (nxAt P n k) n).toNat, (P (bestI P (nxAt P n k) n).toNat).s (nxAt P n k (bestI P (nxAt P n k) n).toNat), 0⟩ := by
      rw [hxe]
      have ht : i = (bestI P (nxAt P n k) n).toNat := by
        rcases hmin with h | h
        · exact absurd (Or.inl (by omega)) hk0
        · rcases Nat.lt_or_ge (bestI P (nxAt P n k) n).toNat i with h2 | h2
          · rcases Int.lt_or_le ((P (bestI P (nxAt P n k) n).toNat).s (nxAt P n k (bestI P (nxAt P n k) n).toNat)) ((P i).s q) with h3 | h3
            · exact absurd (Or.inl h3) hk0
            · exact absurd (Or.inr ⟨by omega, h2⟩) hk0
          · omega
      have hq : q = nxAt P n k i := by
        rcases Nat.eq_or_lt_of_le hq0 with h | h
        · exact h.symm
        · have := hrow.2 (by omega)
          refine absurd (Or.inl ?_) hk0
          rcases hmin with h4 | h4 <;> omega
      rw [← ht, hq]
    refine ⟨?_, ?_⟩
    · simp only [outAt]
      rw [h0, List.take_add_one, List.getElem?_eq_getElem (by omega), heq]
      simp
    · rw [hd, heq] at h1
      exact (h1.trans hpm).cons_inv
theorem out_eq {P : Nat → RowD} {n : Nat} (hup : ∀ i, i < n → ∀ k, k + 1 < (P i).n → (P i).s k < (P i).s (k + 1)) {L : List HoldD} (hp : L.Perm (begunAll P n)) (hs : L.Pairwise (fun x y => ltH y x = false)) :
    L.map HoldD.tr = outAt P n (rowSum P n) := by
  have hl : L.length = rowSum P n := by rw [hp.length_eq, begunAll_len]
  have h := (out_sorted hup hp hs L.length (Nat.le_refl _)).1
  rw [List.take_length, hl] at h
  exact h.symm

def intCells (L : List Nat) : List Value := L.map fun n : Nat => .int .i64 (n : Int)
theorem intCells_snoc (L : List Nat) (n : Nat) : intCells (L ++ [n]) = intCells L ++ [.int .i64 (n : Int)] := by simp [intCells]
def orderOf (nt : Nat) (g : Nat → Int) (gap : Int) (ntr : Nat) (f : Nat → TrainD) (np : Nat) (P : Nat → RowD) : List Nat :=
  if clashOf nt g gap ntr f np P = (0, 0, 0, 0) then outAt P ntr (rowSum P ntr) else []
theorem rowSum_legs {f : Nat → TrainD} {P : Nat → RowD} : ∀ n, (∀ i, i < n → (P i).n = (f i).nl) → legSum f n = rowSum P n
  | 0, _ => rfl
  | n + 1, h => by simp only [legSum, rowSum]; rw [rowSum_legs n (fun i hi => h i (by omega)), h n (by omega)]
theorem rowSum_le {P : Nat → RowD} : ∀ n, (∀ i, i < n → (P i).n ≤ 10) → rowSum P n ≤ n * 10
  | 0, _ => Nat.le_refl _
  | n + 1, h => by have h0 := rowSum_le n (fun i hi => h i (by omega)); have h1 := h n (by omega); simp only [rowSum]; omega

theorem below_new {A B : World} (h : A.grownBy B none) : Below A.heap.size A B := ⟨h.os, h.tape, h.output, h.size, fun k hk => h.block k hk (by simp)⟩
theorem zeros_of {W : World} {b0 g n : Nat} (h : W.ownsRow b0 3 1 (.slice (some ⟨g, 0, none⟩) n n) n (madeCells #[Value.int .i64 0] n).toList) : ∀ i, i < n → W.cell? ⟨g, i, none⟩ = some (.int .i64 (0 : Nat)) ∧ W.frozen? ⟨g, i, none⟩ = false := fun i hi => by
  refine ⟨?_, h.frozenAt i⟩
  rw [h.cellAt i (by omega), toList_madeCells_one, List.getElem?_replicate, if_pos (by omega)]
  rfl

/-- what the model has when so many are picked -/
structure OS (w0 W : World) (gN : Nat) (P : Nat → RowD) (n : Nat) (wr : World) (v : Value) (k : Nat) : Prop where
  own : wr.ownsRow W.heap.size 3 1 v k (intCells (outAt P n k))
  nxt : ∀ i, i < n → wr.cell? ⟨gN, i, none⟩ = some (.int .i64 (nxAt P n k i : Nat)) ∧ wr.frozen? ⟨gN, i, none⟩ = false
  below : Below w0.heap.size w0 wr
  sz : W.heap.size ≤ wr.heap.size
theorem OS.later {w0 W : World} {gN : Nat} {P : Nat → RowD} {n : Nat} {wr w' : World} {v : Value} {k : Nat} (h : OS w0 W gN P n wr v k) (hB : Below wr.heap.size wr w') : OS w0 W gN P n w' v k :=
  ⟨ownsRow_later h.own hB, fun i hi => ⟨cellLater hB (h.nxt i hi).1, (hB.frozen (ltCell (h.nxt i hi).1)).trans (h.nxt i hi).2⟩, Below.join h.below (Nat.le_refl _) hB, Nat.le_trans h.sz hB.size⟩

theorem nxAt_le {P : Nat → RowD} {n : Nat} : ∀ k i, nxAt P n k i ≤ k
  | 0, i => Nat.le_refl _
  | k + 1, i => by
    have := nxAt_le (P := P) (n := n) k i
    simp only [nxAt, bump]
    split <;> omega
/-- as long as not all are picked there is one that has a leg left -/
theorem restAll_len {P : Nat → RowD} {nx : Nat → Nat} : ∀ n, (∀ i, i < n → (P i).n ≤ nx i) → restAll P nx n = []
  | 0, _ => rfl
  | n + 1, h => by
    simp only [restAll]
    rw [restAll_len n (fun i hi => h i (by omega))]
    unfold restRow
    rw [show (P n).n - nx n = 0 by have := h n (by omega); omega]
    rfl
theorem rest_count {P : Nat → RowD} {n : Nat} : ∀ k, k ≤ rowSum P n → (restAll P (nxAt P n k) n).length = rowSum P n - k
  | 0, _ => by show (restAll P (fun _ => 0) n).length = _; rw [← begunAll_eq, begunAll_len]; rfl
  | k + 1, h => by
    have h0 := rest_count (P := P) (n := n) k (by omega)
    have hb : 0 ≤ bestI P (nxAt P n k) n := by
      rcases Int.lt_or_le (bestI P (nxAt P n k) n) 0 with h' | h'
      · rw [restAll_len n (bestI_none P (nxAt P n k) n h')] at h0
        simp at h0; omega
      · exact h'
    have hbl := (bestI_lt P (nxAt P n k) n).1
    have hp := restAll_bump (nx := nxAt P n k) (bestI_min P (nxAt P n k) n hb).1 (n := n) (by omega)
    have := hp.length_eq
    simp only [List.length_cons] at this
    show (restAll P (bump (nxAt P n k) (bestI P (nxAt P n k) n).toNat) n).length = _
    omega
theorem best_there {P : Nat → RowD} {n k : Nat} (h : k < rowSum P n) : 0 ≤ bestI P (nxAt P n k) n := by
  rcases Int.lt_or_le (bestI P (nxAt P n k) n) 0 with h' | h'
  · have h0 := rest_count (P := P) (n := n) k (by omega)
    rw [restAll_len n (bestI_none P (nxAt P n k) n h')] at h0
    simp at h0; omega
  · exact h'

set_option maxRecDepth 20000 in
set_option maxHeartbeats 8000000 in
theorem specOrder_from (a : Option Addr) (len cap : Nat) (g : Nat → Int) (gap : Int) (a' : Option Addr) (len' cap' : Nat) (f : Nat → TrainD) (c : Option Addr) (np nc : Nat) (P : Nat → RowD) (w : World)
    (hT : IsTrains 0 w.heap.size w a' len' f) (hP : IsRows 0 w.heap.size w c np P)
    (hCh : Calls Tryz.prog 57 #[.agg #[.slice a len cap, .int .i64 gap, .slice a' len' cap'], .agg #[.slice c np nc]] ((w.alloc (.cells #[.slice a len cap, .int .i64 gap, .slice a' len' cap'] 35)).alloc (.cells #[.slice c np nc] 29)) fun e w' => e = .returned (.agg #[.int .i64 (clashOf len g gap len' f np P).1, .int .i64 (clashOf len g gap len' f np P).2.1, .int .i64 (clashOf len g gap len' f np P).2.2.1, .int .i64 (clashOf len g gap len' f np P).2.2.2]) ∧ Below ((w.alloc (.cells #[.slice a len cap, .int .i64 gap, .slice a' len' cap'] 35)).alloc (.cells #[.slice c np nc] 29)).heap.size ((w.alloc (.cells #[.slice a len cap, .int .i64 gap, .slice a' len' cap'] 35)).alloc (.cells #[.slice c np nc] 29)) w') :
    Calls Tryz.prog 25 #[.agg #[.slice a len cap, .int .i64 gap, .slice a' len' cap'], .agg #[.slice c np nc]] w fun e w' => (∃ v, e = .returned v ∧ w'.ownsRow w.heap.size 3 1 v (orderOf len g gap len' f np P).length (intCells (orderOf len g gap len' f np P))) ∧ Below w.heap.size w w' := by
  obtain ⟨y0, y1, y2, u0⟩ := box2 w a len cap gap a' len' cap' c np nc 35 29
  have hN := b2 w (.cells #[.slice a len cap, .int .i64 gap, .slice a' len' cap'] 35) (.cells #[.slice c np nc] 29)
  rcases clashOf_or len g gap len' f np P with hz | hz
  · have hA : orderOf len g gap len' f np P = outAt P len' (rowSum P len') := by unfold orderOf; rw [if_pos hz]
    obtain ⟨hF, hS⟩ := clashOf_ok hz
    have hF0 := faultOf_snd hF
    have hR := rightL_of hF0
    have hQ := rightP_of hS
    obtain rfl : np = len' := hQ.np
    rw [hA]
    rw [hz] at hCh
    dsimp only at hCh
    clear hA hz hF hF0 hS
    have htr := hR.tr
    obtain ⟨i0, hi, hz0, hz1, hz2⟩ := info_parts Tryz.infoInt
    have hleg := rowSum_legs (f := f) (P := P) np (fun i hi => hQ.row i hi)
    have hnl10 := fun i (hi : i < np) => (hR.train i hi).nl
    have hsum := rowSum_le (P := P) np (fun i hi => by rw [hQ.row i hi]; exact hnl10 i hi)
    go_enter Tryz.func25, Tryz.ntmps25
    go_wp2_with (first | (at_make; refine wpList_make_full _ rfl _ _ 22 rfl 0 3 i0 _ 1 Tryz.underlying22 hi hz0 hz1 .i64 .i64 _ _ np rfl rfl rfl rfl (by rw [hz2]; omega) (by unfold maxLen; omega) (Nat.zero_le _) ?_) | (go_at_call 57; refine hCh.mono ?_; rintro _ w2 ⟨rfl, hB2⟩; have hB := Below.join hN (Nat.le_refl _) hB2; have x0 := cellLater hB2 y0; have x1 := cellLater hB2 y1; have x2 := cellLater hB2 y2; have x3 := cellLater hB2 u0; have lw := ltCell x2; have lw3 := ltCell x3))
    have k2 := x2
    have k3 := x3
    have hBw2 := hB
    have hWb := b1 w2 (.cells #[.int .i64 0, .int .i64 0, .int .i64 0, .int .i64 0] 87)
    intro W1 hmade hgrow
    have hB1 := below_new hgrow
    have hZ := zeros_of hmade
    have hs1 : w2.heap.size + 1 < W1.heap.size := by have := (hmade.lt (w2.heap.size + 1) (by simp [Value.ownBlock])).2; exact this
    have hB12 := Below.join hWb (Nat.le_refl _) hB1
    replace hB := Below.join hB (Nat.le_refl _) hB12
    replace x0 := cellLater hB12 x0
    replace x1 := cellLater hB12 x1
    replace x2 := cellLater hB12 x2
    replace x3 := cellLater hB12 x3
    clear hmade hgrow hB1 hWb
    have hLg := l1legs_any a len cap gap a' np cap' f W1 htr (fun j hj => by have := hnl10 j hj; omega) (hT.grow hB)
    rw [hleg] at hLg
    go_wp2_with (go_at_call 42; refine hLg.mono ?_; rintro _ W ⟨rfl, hB3⟩)
    have hW : OS w2 W (w2.heap.size + 1) P np W (.slice none 0 0) 0 := ⟨World.ownsRow_nil _ _ _ _, fun i hi => ⟨cellLater hB3 (hZ i hi).1, (hB3.frozen (ltCell (hZ i hi).1)).trans (hZ i hi).2⟩, Below.join hB12 (Nat.le_refl _) hB3, Nat.le_refl _⟩
    have hgW : w2.heap.size + 1 < W.heap.size := by have := hB3.size; omega
    have hBWw : w.heap.size ≤ W.heap.size := by have := hBw2.size; omega
    clear hLg hB12 hB3 hZ hB x0 x1 x2 x3 hs1 hB2 hCh y0 y1 y2 u0 hN hT
    go_loopw [6, 8] (fun v nn wr => ∃ (k : Nat), k ≤ rowSum P np ∧ nn = .int .i64 ((rowSum P np - k : Nat) : Int) ∧ OS w2 W (w2.heap.size + 1) P np wr v k) (fun _ nn _ => (intOf nn).toNat)
    case atStart => exact ⟨0, Nat.zero_le _, by simp, hW⟩
    case round =>
      obtain ⟨k, hk, rfl, hO⟩ := hrel
      by_cases hlt : k < rowSum P np
      · have hk' : (0 : Int) < ((rowSum P np - k : Nat) : Int) := by omega
        have hkN : 0 < rowSum P np - k := by omega
        have hkM : rowSum P np - k ≤ 50 := by omega
        generalize hrem : rowSum P np - k = rem at hk' hkN hkM
        have hrem' : Hid _ := hrem
        clear hrem
        have v3 := cellLater hO.below k3
        have hbt := best_there hlt
        go_wp2
        clear v3
        go_loopw [9, 31] (fun bb ii wr2 => ∃ (i : Nat), i ≤ np ∧ ii = .int .i64 i ∧ bb = .int .i64 (bestI P (nxAt P np k) i) ∧ OS w2 W (w2.heap.size + 1) P np wr2 u6 k) (fun _ ii _ => np - (intOf ii).toNat)
        case atStart => exact ⟨0, Nat.zero_le _, rfl, rfl, hO⟩
        case round =>
          obtain ⟨i, hin, rfl, rfl, hO2⟩ := hrel
          have v3 := cellLater hO2.below k3
          by_cases hilt : i < np
          · have hi' : (i : Int) < (np : Int) := by omega
            have hi0 : (0 : Int) ≤ (i : Int) := by omega
            have hBr := Below.join hBw2 (Nat.le_refl _) hO2.below
            obtain ⟨bp, op, lp, lpc, rfl, _, hbp, p0, hinr, _⟩ := hP i hilt
            replace p0 := cellLater hBr p0
            obtain ⟨n0, z0⟩ := hO2.nxt i hilt
            have hni : (P i).n ≤ 10 := by rw [hQ.row i hilt]; exact hnl10 i hilt
            have hnx := nxAt_le (P := P) (n := np) k i
            by_cases hA : nxAt P np k i < (P i).n
            · have hA' : ((nxAt P np k i : Nat) : Int) < ((P i).n : Int) := by omega
              have hAd : decide (((nxAt P np k i : Nat) : Int) < ((P i).n : Int)) = true := decide_eq_true hA'
              have hA0 : (0 : Int) ≤ ((nxAt P np k i : Nat) : Int) := by omega
              obtain ⟨bi, oi, rfl, _, hbi, q0⟩ := hinr _ hA
              replace q0 := cellLater hBr q0
              rcases Int.lt_or_le (bestI P (nxAt P np k) i) 0 with hB | hB
              · have eb : Hid (bestI P (nxAt P np k) (i + 1) = (i : Int)) := by unfold Hid; simp only [bestI]; rw [if_pos ⟨hA, Or.inl hB⟩]
                have hBd : decide (bestI P (nxAt P np k) i < 0) = true := decide_eq_true hB
                generalize bestI P (nxAt P np k) i = B at hB hBd
                go_wp2
                go_quiet (fail)
                go_wp2
                go_roundw
                case rel => first | exact ⟨i + 1, by omega, by go_num, by rw [eb.out], hO2.later (below_drewN (Below.refl _ _) _)⟩ | ((repeat apply Exists.intro); exact ⟨⟨i + 1, by omega, by go_num, by rw [eb.out], hO2.later (below_drewN (Below.refl _ _) _)⟩, rfl⟩)
                case measure => simp [intOf]; omega
              · obtain ⟨b, hb⟩ : ∃ b : Nat, bestI P (nxAt P np k) i = (b : Int) := ⟨(bestI P (nxAt P np k) i).toNat, by omega⟩
                have hmin := (bestI_min P (nxAt P np k) i hB).1
                have hbl := (bestI_lt P (nxAt P np k) i).1
                rw [hb] at hbl hmin hB
                rw [Int.toNat_natCast] at hmin
                have hbn : b < np := by omega
                obtain ⟨bp', op', lp', lpc', ep, _, hbp', p0', hinr', _⟩ := hP b hbn
                simp only [Option.some.injEq, Addr.mk.injEq] at ep
                obtain ⟨rfl, rfl, _⟩ := ep
                replace p0' := cellLater hBr p0'
                obtain ⟨bi', oi', rfl, _, hbi', q0'⟩ := hinr' _ hmin
                replace q0' := cellLater hBr q0'
                obtain ⟨n0', z0'⟩ := hO2.nxt b hbn
                have hb' : (b : Int) < (np : Int) := by omega
                have hm' : ((nxAt P np k b : Nat) : Int) < ((P b).n : Int) := by omega
                have hm0 : (0 : Int) ≤ ((nxAt P np k b : Nat) : Int) := by omega
                have hBd : decide ((b : Int) < 0) = false := decide_eq_false (by omega)
                have hBn : ¬ ((b : Int) < 0) := by omega
                by_cases hC : (P i).s (nxAt P np k i) < (P b).s (nxAt P np k b)
                · have eb : Hid (bestI P (nxAt P np k) (i + 1) = (i : Int)) := by unfold Hid; simp only [bestI]; rw [if_pos ⟨hA, Or.inr (by rw [hb, Int.toNat_natCast]; exact hC)⟩]
                  have hCd : decide ((P i).s (nxAt P np k i) < (P b).s (nxAt P np k b)) = true := decide_eq_true hC
                  rw [hb]
                  clear hb
                  go_wp2
                  go_quiet (fail)
                  go_wp2
                  go_roundw
                  case rel => first | exact ⟨i + 1, by omega, by go_num, by rw [eb.out], hO2.later (below_drewN (Below.refl _ _) _)⟩ | ((repeat apply Exists.intro); exact ⟨⟨i + 1, by omega, by go_num, by rw [eb.out], hO2.later (below_drewN (Below.refl _ _) _)⟩, rfl⟩)
                  case measure => simp [intOf]; omega
                · have eb : Hid (bestI P (nxAt P np k) (i + 1) = (b : Int)) := by unfold Hid; simp only [bestI]; rw [if_neg (fun h => by rcases h.2 with h' | h'; (· omega); (· rw [hb, Int.toNat_natCast] at h'; exact hC h')), hb]
                  have hCd : decide ((P i).s (nxAt P np k i) < (P b).s (nxAt P np k b)) = false := decide_eq_false hC
                  rw [hb]
                  clear hb
                  go_wp2
                  go_quiet (fail)
                  go_wp2
                  go_roundw
                  case rel => first | exact ⟨i + 1, by omega, by go_num, by rw [eb.out], hO2.later (below_drewN (Below.refl _ _) _)⟩ | ((repeat apply Exists.intro); exact ⟨⟨i + 1, by omega, by go_num, by rw [eb.out], hO2.later (below_drewN (Below.refl _ _) _)⟩, rfl⟩)
                  case measure => simp [intOf]; omega
            · have eb : Hid (bestI P (nxAt P np k) (i + 1) = bestI P (nxAt P np k) i) := by unfold Hid; simp only [bestI]; rw [if_neg (fun h => hA h.1)]
              have hAd : decide (((nxAt P np k i : Nat) : Int) < ((P i).n : Int)) = false := decide_eq_false (by omega)
              have hA' : ¬ (((nxAt P np k i : Nat) : Int) < ((P i).n : Int)) := by omega
              go_wp2
              go_quiet (fail)
              go_wp2
              go_roundw
              case rel => first | exact ⟨i + 1, by omega, by go_num, by rw [eb.out], hO2.later (below_drewN (Below.refl _ _) _)⟩ | ((repeat apply Exists.intro); exact ⟨⟨i + 1, by omega, by go_num, by rw [eb.out], hO2.later (below_drewN (Below.refl _ _) _)⟩, rfl⟩)
              case measure => simp [intOf]; omega
          · obtain rfl : i = np := by omega
            obtain ⟨b, hb⟩ : ∃ b : Nat, bestI P (nxAt P i k) i = (b : Int) := ⟨(bestI P (nxAt P i k) i).toNat, by omega⟩
            have hmin := (bestI_min P (nxAt P i k) i hbt).1
            have hbl := (bestI_lt P (nxAt P i k) i).1
            have eo : outAt P i (k + 1) = outAt P i k ++ [b] := by simp only [outAt]; rw [hb, Int.toNat_natCast]
            have en : nxAt P i (k + 1) = bump (nxAt P i k) b := by simp only [nxAt]; rw [hb, Int.toNat_natCast]
            have eo' : Hid _ := eo
            have en' : Hid _ := en
            rw [hb] at hbl hbt hmin
            rw [Int.toNat_natCast] at hmin
            rw [hb]
            clear hb eo en
            have hbn : b < i := by omega
            have hb' : (b : Int) < (i : Int) := by omega
            obtain ⟨n0, z0⟩ := hO2.nxt b hbn
            have hnx := nxAt_le (P := P) (n := i) k b
            have hsz := hO2.sz
            go_wp2_with (first | (at_builtin; refine wpList_append_own _ rfl _ _ 22 rfl W.heap.size 3 i0 _ 1 8 Tryz.underlying22 hi hz0 hz1 hz2 rfl (by decide) _ _ _ rfl (hO2.own.alloc _) ⟨wr.heap.size, 0, none⟩ 1 1 [.int .i64 b] rfl rfl cells1_lie one1 (by unfold maxLen; omega) (by omega) (by simp only [World.size_alloc]; omega) ?_))
            intro v' w6 hown' hgrow _
            have hO3 := hO2.later (b1 wr (.cells #[.int .i64 b] 3))
            have hsz6 := hgrow.size
            simp only [World.size_alloc] at hsz6
            have hkeep : w6.heap[w2.heap.size + 1]? = (wr.alloc (.cells #[.int .i64 b] 3)).heap[w2.heap.size + 1]? := hgrow.block _ (by simp only [World.size_alloc]; omega) (fun e => by have := (hO3.own.lt _ e.symm).1; omega)
            have hnx6 : ∀ j, j < i → w6.cell? ⟨w2.heap.size + 1, j, none⟩ = some (.int .i64 (nxAt P i k j : Nat)) ∧ w6.frozen? ⟨w2.heap.size + 1, j, none⟩ = false := fun j hj =>
              ⟨(World.cell?_of_block (w := wr.alloc (.cells #[.int .i64 b] 3)) (w' := w6) (a := ⟨w2.heap.size + 1, j, none⟩) hkeep).trans (hO3.nxt j hj).1, (World.frozen?_of_block (w := wr.alloc (.cells #[.int .i64 b] 3)) (w' := w6) (a := ⟨w2.heap.size + 1, j, none⟩) hkeep).trans (hO3.nxt j hj).2⟩
            have hB6 : Below w2.heap.size w2 w6 := hO3.below.grown hgrow (by simp only [World.size_alloc]; omega) (fun j hj => by have := (hO3.own.lt j hj).1; omega)
            obtain ⟨m0, mz⟩ := hnx6 b hbn
            have hfin : OS w2 W (w2.heap.size + 1) P i (w6.setCell ⟨w2.heap.size + 1, b, none⟩ (.int .i64 ((nxAt P i k b : Nat) + 1))) v' (k + 1) := by
              refine ⟨by rw [eo'.out, intCells_snoc]; exact ownsRow_setCell_below hown' (by dsimp only; omega) _, fun j hj => ?_, hB6.setCell (p := ⟨w2.heap.size + 1, b, none⟩) (by dsimp only; omega) _, by simp; omega⟩
              rw [en'.out, World.frozen?_setCell]
              refine ⟨?_, (hnx6 j hj).2⟩
              by_cases e : j = b
              · subst e
                rw [World.cell?_setCell_same _ _ _ m0]
                simp [bump]
              · rw [cell_set_ne (fun h => e h.symm)]
                simp only [bump, if_neg e]
                exact (hnx6 j hj).1
            have hfin' : Hid _ := hfin
            clear hnx6 hkeep hown' hgrow hO3 hfin n0 z0
            go_wp2
            go_roundw
            case rel => first | exact ⟨k + 1, by omega, by have := hrem'.out; go_num, hfin'.out⟩ | ((repeat apply Exists.intro); exact ⟨⟨k + 1, by omega, by have := hrem'.out; go_num, hfin'.out⟩, rfl⟩)
            case measure => simp [intOf]; omega
      · obtain rfl : k = rowSum P np := by omega
        have hk' : ¬ ((0 : Int) < ((rowSum P np - rowSum P np : Nat) : Int)) := by omega
        go_wp2
        go_ret
        exact ⟨⟨_, rfl, by rw [outAt_len]; exact Joins.ownsRow_le hO.own hBWw⟩, Below.join hBw2 (Nat.le_refl _) hO.below⟩
  · have hA : orderOf len g gap len' f np P = [] := by unfold orderOf; rw [if_neg (fun h => hz (by rw [h]))]
    rw [hA]
    clear hA
    generalize clashOf len g gap len' f np P = vq at hz hCh
    obtain ⟨v0, v1, v2, v3⟩ := vq
    dsimp only at hz hCh
    have hz' : (v0 != 0) = true := by simpa using hz
    go_enter Tryz.func25, Tryz.ntmps25
    go_wp2_with (go_at_call 57; refine hCh.mono ?_; rintro _ w2 ⟨rfl, hB2⟩)
    go_ret
    exact ⟨⟨.slice none 0 0, rfl, World.ownsRow_nil _ _ _ _⟩, Below.join (Below.join hN (Nat.le_refl _) hB2) (Nat.le_refl _) (b1 _ _)⟩
end Go.Proofs.YtmmkggkneefhoabGreatDoor
