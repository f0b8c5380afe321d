/-
  A line as a text, over plain data.
-/
import Derived.Test.YtnjaegeapcijpaaDoorPlainG
import Derived.Lib.ItoaNum
import Derived.Lib.Join
import Derived.Laws.Concat
namespace Go.Proofs.YtnjaegeapcijpaaDoor
open Go.RowKit

/-- a text of these bytes -/
def ba (l : List UInt8) : ByteArray := ⟨l.toArray⟩
theorem ba_size (l : List UInt8) : (ba l).size = l.length := by show l.toArray.size = _; simp
theorem ba_append (l m : List UInt8) : ba l ++ ba m = ba (l ++ m) := by unfold ba; rw [ByteArray.mk_append_mk]
theorem ba_list (l : List UInt8) : (ba l).data.toList = l := by simp [ba]
theorem ba_of (s : ByteArray) : ba s.data.toList = s := by unfold ba; cases s; simp
theorem add_ba (l m : List UInt8) (h : l.length + m.length ≤ 1000000) (w : World) : (Op.stringOp .add (ba l) (ba m)).run Tryd.prog w = .ok (.string (ba (l ++ m))) w := by
  rw [run_string_add_sum w _ _ (by rw [ba_size, ba_size]; omega), ba_append]

theorem nDigits_le : ∀ (k u : Nat), u < 10 ^ (k + 1) → Lib.nDigits u ≤ k + 1
  | 0, u, h => by rw [Lib.nDigits_small (by simpa using h)]; omega
  | k + 1, u, h => by
    by_cases hu : u < 10
    · rw [Lib.nDigits_small hu]; omega
    · rw [Lib.nDigits_big hu]
      have := nDigits_le k (u / 10) (by rw [Nat.pow_succ] at h; exact Nat.div_lt_of_lt_mul (by rw [Nat.mul_comm]; exact h))
      omega
theorem itoa_len {n : Int} (h0 : 0 ≤ n) (h1 : n ≤ 99999999) : (Lib.itoa n).length ≤ 8 := by
  unfold Lib.itoa
  rw [if_neg (by omega), Lib.decDigits_length]
  exact nDigits_le 7 _ (by have : n.toNat < 100000000 := by omega
                           simpa using this)

/-- the row of the tracks, up to a station -/
def tracksT (g : Nat → Int) : Nat → List UInt8
  | 0 => [116, 114, 97, 99, 107, 115]
  | k + 1 => tracksT g k ++ (32 :: Lib.itoa (g k))
def gapT (gap : Int) : List UInt8 := [10, 103, 97, 112, 32] ++ Lib.itoa gap ++ [10]
def legT (x : LegD) : List UInt8 := [108, 101, 103, 32] ++ Lib.itoa x.to ++ [32, 114, 117, 110, 32] ++ Lib.itoa x.run ++ [32, 115, 116, 97, 121, 32] ++ Lib.itoa x.stay ++ [10]
def trainT (t : TrainD) : List UInt8 := [116, 114, 97, 105, 110, 32] ++ Lib.itoa t.frm ++ [32, 114, 101, 97, 100, 121, 32] ++ Lib.itoa t.ready ++ [32, 100, 117, 101, 32] ++ Lib.itoa t.due ++ [32, 119, 101, 105, 103, 104, 116, 32] ++ Lib.itoa t.weight ++ [10]
def legsT (t : TrainD) (b : List UInt8) : Nat → List UInt8
  | 0 => b
  | m + 1 => legsT t b m ++ legT (t.leg m)
def trainsT (f : Nat → TrainD) (b : List UInt8) : Nat → List UInt8
  | 0 => b
  | j + 1 => legsT (f j) (trainsT f b j ++ trainT (f j)) (f j).nl
def headT (len : Nat) (g : Nat → Int) (gap : Int) : List UInt8 := tracksT g len ++ gapT gap
def lineT (len : Nat) (g : Nat → Int) (gap : Int) (np : Nat) (f : Nat → TrainD) : List UInt8 := trainsT f (headT len g gap) np

/-- the numbers of a right line, as they bound a text -/
structure SmallL (len : Nat) (g : Nat → Int) (gap : Int) (np : Nat) (f : Nat → TrainD) : Prop where
  l12 : len ≤ 12
  l1 : 1 ≤ len
  n5 : np ≤ 5
  tk : ∀ k, k < len → 0 ≤ g k ∧ g k ≤ 99999999
  gp : 0 ≤ gap ∧ gap ≤ 99999999
  tr : ∀ j, j < np → ((0 ≤ (f j).frm ∧ (f j).frm ≤ 99999999) ∧ (0 ≤ (f j).ready ∧ (f j).ready ≤ 99999999) ∧ (0 ≤ (f j).due ∧ (f j).due ≤ 99999999) ∧ (0 ≤ (f j).weight ∧ (f j).weight ≤ 99999999)) ∧ (f j).nl ≤ 10
  leg : ∀ j, j < np → ∀ m, m < (f j).nl → (0 ≤ ((f j).leg m).to ∧ ((f j).leg m).to ≤ 99999999) ∧ (0 ≤ ((f j).leg m).run ∧ ((f j).leg m).run ≤ 99999999) ∧ (0 ≤ ((f j).leg m).stay ∧ ((f j).leg m).stay ≤ 99999999)

theorem smallL_of {len : Nat} {g : Nat → Int} {gap : Int} {np : Nat} {f : Nat → TrainD} (h : faultOf len g gap np f = (0, 0)) : SmallL len g gap np f := by
  have hR := rightL_of h
  have hG := rightG_of h
  have hst := hR.st
  have hst0 := hG.st0
  have hg0 := hG.g0
  have hg1 := hG.g1
  refine ⟨hR.st, by omega, hR.tr, fun k hk => ?_, by omega, fun j hj => ?_, fun j hj m hm => ?_⟩
  · have := hG.room k hk; omega
  · have h1 := hR.train j hj
    have h2 := hG.frm j hj
    have h3 := h1.r0
    have h4 := h1.r1
    have h5 := h1.d0
    have h6 := h1.d1
    have h7 := h1.w0
    have h8 := h1.w1
    exact ⟨⟨by omega, by omega, by omega, by omega⟩, h1.nl⟩
  · have h1 := (hR.train j hj).leg m hm
    have h2 := hR.to j hj m hm
    exact ⟨by omega, by omega, by omega⟩

theorem tracksT_len {len : Nat} {g : Nat → Int} (h : ∀ k, k < len → 0 ≤ g k ∧ g k ≤ 99999999) : ∀ k, k ≤ len → (tracksT g k).length ≤ 6 + 9 * k
  | 0, _ => by simp [tracksT]
  | k + 1, hk => by
    have h1 := tracksT_len h k (by omega)
    have h2 := itoa_len (h k (by omega)).1 (h k (by omega)).2
    simp only [tracksT, List.length_append, List.length_cons]; omega
theorem gapT_len {gap : Int} (h : 0 ≤ gap ∧ gap ≤ 99999999) : (gapT gap).length ≤ 14 := by
  have := itoa_len h.1 h.2
  simp only [gapT, List.length_append, List.length_cons, List.length_nil]; omega
theorem legT_len {x : LegD} (h : (0 ≤ x.to ∧ x.to ≤ 99999999) ∧ (0 ≤ x.run ∧ x.run ≤ 99999999) ∧ (0 ≤ x.stay ∧ x.stay ≤ 99999999)) : (legT x).length ≤ 40 := by
  have h1 := itoa_len h.1.1 h.1.2
  have h2 := itoa_len h.2.1.1 h.2.1.2
  have h3 := itoa_len h.2.2.1 h.2.2.2
  simp only [legT, List.length_append, List.length_cons, List.length_nil]; omega
theorem trainT_len {t : TrainD} (h : (0 ≤ t.frm ∧ t.frm ≤ 99999999) ∧ (0 ≤ t.ready ∧ t.ready ≤ 99999999) ∧ (0 ≤ t.due ∧ t.due ≤ 99999999) ∧ (0 ≤ t.weight ∧ t.weight ≤ 99999999)) : (trainT t).length ≤ 60 := by
  have h1 := itoa_len h.1.1 h.1.2
  have h2 := itoa_len h.2.1.1 h.2.1.2
  have h3 := itoa_len h.2.2.1.1 h.2.2.1.2
  have h4 := itoa_len h.2.2.2.1 h.2.2.2.2
  simp only [trainT, List.length_append, List.length_cons, List.length_nil]; omega
theorem legsT_len {t : TrainD} {b : List UInt8} (h : ∀ m, m < t.nl → (legT (t.leg m)).length ≤ 40) : ∀ m, m ≤ t.nl → (legsT t b m).length ≤ b.length + 40 * m
  | 0, _ => by simp [legsT]
  | m + 1, hm => by
    have h1 := legsT_len (b := b) h m (by omega)
    have h2 := h m (by omega)
    simp only [legsT, List.length_append]; omega
theorem headT_len {len : Nat} {g : Nat → Int} {gap : Int} {np : Nat} {f : Nat → TrainD} (h : SmallL len g gap np f) : (headT len g gap).length ≤ 200 := by
  have h1 := tracksT_len h.tk len (Nat.le_refl _)
  have h2 := gapT_len h.gp
  have h3 := h.l12
  unfold headT
  rw [List.length_append]
  omega
theorem trainsT_len {len : Nat} {g : Nat → Int} {gap : Int} {np : Nat} {f : Nat → TrainD} {b : List UInt8} (h : SmallL len g gap np f) : ∀ j, j ≤ np → (trainsT f b j).length ≤ b.length + 460 * j
  | 0, _ => by simp [trainsT]
  | j + 1, hj => by
    have h1 := trainsT_len (b := b) h j (by omega)
    obtain ⟨h2, h3⟩ := h.tr j (by omega)
    have h4 := trainT_len h2
    have h5 := legsT_len (t := f j) (b := trainsT f b j ++ trainT (f j)) (fun m hm => legT_len (h.leg j (by omega) m hm)) (f j).nl (Nat.le_refl _)
    rw [List.length_append] at h5
    simp only [trainsT]; omega

/-! ### a row, by its words -/
def partsOf (ws : List (List UInt8)) (ns : Nat → Int) : Nat → List (List UInt8)
  | 0 => []
  | i + 1 => (if i < ws.length then partsOf ws ns i ++ [ws.getD i []] else partsOf ws ns i) ++ [Lib.itoa (ns i)]
def rowT (ws : List (List UInt8)) (ns : Nat → Int) (n : Nat) : List UInt8 := Lib.join (partsOf ws ns n) [32] ++ [10]
def wordsOf : Nat → List (List UInt8)
  | 0 => [[116, 114, 97, 99, 107, 115]]
  | 1 => [[103, 97, 112]]
  | 2 => [[116, 114, 97, 105, 110], [114, 101, 97, 100, 121], [100, 117, 101], [119, 101, 105, 103, 104, 116]]
  | _ => [[108, 101, 103], [114, 117, 110], [115, 116, 97, 121]]
theorem join_snoc {l : List (List UInt8)} (x sep : List UInt8) (h : l ≠ []) : Lib.join (l ++ [x]) sep = Lib.join l sep ++ (sep ++ x) := by
  cases l with
  | nil => exact absurd rfl h
  | cons y r => rw [List.cons_append, Lib.join_cons, Lib.join_cons]; simp [Lib.joinTail, List.append_assoc]
theorem partsOf_ne (ws : List (List UInt8)) (ns : Nat → Int) (i : Nat) : partsOf ws ns (i + 1) ≠ [] := by simp [partsOf]
theorem join_tracks (g : Nat → Int) : ∀ k, Lib.join (partsOf (wordsOf 0) g (k + 1)) [32] = tracksT g (k + 1)
  | 0 => by simp [partsOf, wordsOf, Lib.join_cons, Lib.joinTail, tracksT]
  | k + 1 => by
    rw [partsOf, if_neg (by simp [wordsOf]), join_snoc _ _ (partsOf_ne _ _ _), join_tracks g k]
    rfl
theorem rowT_tracks (g : Nat → Int) {n : Nat} (h : 1 ≤ n) : rowT (wordsOf 0) g n = tracksT g n ++ [10] := by
  obtain ⟨k, rfl⟩ : ∃ k, n = k + 1 := ⟨n - 1, by omega⟩
  unfold rowT
  rw [join_tracks]
theorem rowT_gap (gap : Int) : rowT (wordsOf 1) (fun i => [gap].getD i 0) 1 = [103, 97, 112, 32] ++ Lib.itoa gap ++ [10] := by
  simp [rowT, partsOf, wordsOf, Lib.join_cons, Lib.joinTail]
theorem rowT_train (t : TrainD) : rowT (wordsOf 2) (fun i => [t.frm, t.ready, t.due, t.weight].getD i 0) 4 = trainT t := by
  simp [rowT, partsOf, wordsOf, Lib.join_cons, Lib.joinTail, trainT]
theorem rowT_leg (x : LegD) : rowT (wordsOf 3) (fun i => [x.to, x.run, x.stay].getD i 0) 3 = legT x := by
  simp [rowT, partsOf, wordsOf, Lib.join_cons, Lib.joinTail, legT]
theorem head_eq {len : Nat} (g : Nat → Int) (gap : Int) (h : 1 ≤ len) : rowT (wordsOf 0) g len ++ rowT (wordsOf 1) (fun i => [gap].getD i 0) 1 = headT len g gap := by
  rw [rowT_tracks g h, rowT_gap]
  simp [headT, gapT, List.append_assoc]
def strCells (L : List (List UInt8)) : List Value := L.map fun l => .string (ba l)
theorem strCells_len (L : List (List UInt8)) : (strCells L).length = L.length := by simp [strCells]
theorem strCells_app (L M : List (List UInt8)) : strCells (L ++ M) = strCells L ++ strCells M := by simp [strCells]
theorem strCells_at (L : List (List UInt8)) (j : Nat) (x : List UInt8) (h : L[j]? = some x) : (strCells L)[j]? = some (.string (ba x)) := by simp [strCells, h]
theorem partsOf_len (ws : List (List UInt8)) (ns : Nat → Int) : ∀ i, (partsOf ws ns i).length ≤ 2 * i
  | 0 => by simp [partsOf]
  | i + 1 => by
    have := partsOf_len ws ns i
    unfold partsOf
    split <;> simp only [List.length_append, List.length_cons, List.length_nil] <;> omega
end Go.Proofs.YtnjaegeapcijpaaDoor
