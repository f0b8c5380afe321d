/-
  A line as a text, over plain data.
  The table of powers, as it lies.
  A number as the model writes it.
  Where the library's Itoa and Join lie in this program. (By the shelf's own tool; the numbers are the seat's: tools/shelft.sh prints them anew.)
  A number as the program writes it.
-/
import Derived.Test.YthnlkpifafklkaaGreatDoorPlainG
import Derived.Lib.ItoaNum
import Derived.Lib.Join
import Derived.Laws.Concat
import Derived.Lib.SmallJoins
import Derived.Lib.LaidTab
import Derived.Laws.BytesArg
import Derived.Test.YthnlkpifafklkaaGreatDoorProg
import Derived.Shelf.Strconv.Itoa3
import Derived.Shelf.Strings.OnBuilder
namespace Go.Proofs.YthnlkpifafklkaaGreatDoor
open Go.RowKit

/-- a text of these bytes -/
def ba (l : List UInt8) : ByteArray := ⟨l.toArray⟩
theorem ba_size (l : List UInt8) : (ba l).size = l.length := by show l.toArray.size = _; simp
theorem ba_append (l m : List UInt8) : ba l ++ ba m = ba (l ++ m) := by unfold ba; rw [ByteArray.mk_append_mk]
theorem ba_list (l : List UInt8) : (ba l).data.toList = l := by simp [ba]
theorem ba_of (s : ByteArray) : ba s.data.toList = s := by unfold ba; cases s; simp
theorem add_ba (l m : List UInt8) (h : l.length + m.length ≤ 1000000) (w : World) : (Op.stringOp .add (ba l) (ba m)).run Tryz.prog w = .ok (.string (ba (l ++ m))) w := by
  rw [run_string_add_sum w _ _ (by rw [ba_size, ba_size]; omega), ba_append]

theorem nDigits_le : ∀ (k u : Nat), u < 10 ^ (k + 1) → Lib.nDigits u ≤ k + 1
  | 0, u, h => by rw [Lib.nDigits_small (by simpa using h)]; omega
  | k + 1, u, h => by
    by_cases hu : u < 10
    · rw [Lib.nDigits_small hu]; omega
    · rw [Lib.nDigits_big hu]
      have := nDigits_le k (u / 10) (by rw [Nat.pow_succ] at h; exact Nat.div_lt_of_lt_mul (by rw [Nat.mul_comm]; exact h))
      omega
theorem itoa_len {n : Int} (h0 : 0 ≤ n) (h1 : n ≤ 99999999) : (Lib.itoa n).length ≤ 8 := by
  unfold Lib.itoa
  rw [if_neg (by omega), Lib.decDigits_length]
  exact nDigits_le 7 _ (by have : n.toNat < 100000000 := by omega
                           simpa using this)

/-- the row of the tracks, up to a station -/
def tracksT (g : Nat → Int) : Nat → List UInt8
  | 0 => [116, 114, 97, 99, 107, 115]
  | k + 1 => tracksT g k ++ (32 :: Lib.itoa (g k))
def gapT (gap : Int) : List UInt8 := [10, 103, 97, 112, 32] ++ Lib.itoa gap ++ [10]
def legT (x : LegD) : List UInt8 := [108, 101, 103, 32] ++ Lib.itoa x.to ++ [32, 114, 117, 110, 32] ++ Lib.itoa x.run ++ [32, 115, 116, 97, 121, 32] ++ Lib.itoa x.stay ++ [10]
def trainT (t : TrainD) : List UInt8 := [116, 114, 97, 105, 110, 32] ++ Lib.itoa t.frm ++ [32, 114, 101, 97, 100, 121, 32] ++ Lib.itoa t.ready ++ [32, 100, 117, 101, 32] ++ Lib.itoa t.due ++ [32, 119, 101, 105, 103, 104, 116, 32] ++ Lib.itoa t.weight ++ [10]
def legsT (t : TrainD) (b : List UInt8) : Nat → List UInt8
  | 0 => b
  | m + 1 => legsT t b m ++ legT (t.leg m)
def trainsT (f : Nat → TrainD) (b : List UInt8) : Nat → List UInt8
  | 0 => b
  | j + 1 => legsT (f j) (trainsT f b j ++ trainT (f j)) (f j).nl
def headT (len : Nat) (g : Nat → Int) (gap : Int) : List UInt8 := tracksT g len ++ gapT gap
def lineT (len : Nat) (g : Nat → Int) (gap : Int) (np : Nat) (f : Nat → TrainD) : List UInt8 := trainsT f (headT len g gap) np

/-- the numbers of a right line, as they bound a text -/
structure SmallL (len : Nat) (g : Nat → Int) (gap : Int) (np : Nat) (f : Nat → TrainD) : Prop where
  l12 : len ≤ 12
  l1 : 1 ≤ len
  n5 : np ≤ 5
  tk : ∀ k, k < len → 0 ≤ g k ∧ g k ≤ 99999999
  gp : 0 ≤ gap ∧ gap ≤ 99999999
  tr : ∀ j, j < np → ((0 ≤ (f j).frm ∧ (f j).frm ≤ 99999999) ∧ (0 ≤ (f j).ready ∧ (f j).ready ≤ 99999999) ∧ (0 ≤ (f j).due ∧ (f j).due ≤ 99999999) ∧ (0 ≤ (f j).weight ∧ (f j).weight ≤ 99999999)) ∧ (f j).nl ≤ 10
  leg : ∀ j, j < np → ∀ m, m < (f j).nl → (0 ≤ ((f j).leg m).to ∧ ((f j).leg m).to ≤ 99999999) ∧ (0 ≤ ((f j).leg m).run ∧ ((f j).leg m).run ≤ 99999999) ∧ (0 ≤ ((f j).leg m).stay ∧ ((f j).leg m).stay ≤ 99999999)

theorem smallL_of {len : Nat} {g : Nat → Int} {gap : Int} {np : Nat} {f : Nat → TrainD} (h : faultOf len g gap np f = (0, 0)) : SmallL len g gap np f := by
  have hR := rightL_of h
  have hG := rightG_of h
  have hst := hR.st
  have hst0 := hG.st0
  have hg0 := hG.g0
  have hg1 := hG.g1
  refine ⟨hR.st, by omega, hR.tr, fun k hk => ?_, by omega, fun j hj => ?_, fun j hj m hm => ?_⟩
  · have := hG.room k hk; omega
  · have h1 := hR.train j hj
    have h2 := hG.frm j hj
    have h3 := h1.r0
    have h4 := h1.r1
    have h5 := h1.d0
    have h6 := h1.d1
    have h7 := h1.w0
    have h8 := h1.w1
    exact ⟨⟨by omega, by omega, by omega, by omega⟩, h1.nl⟩
  · have h1 := (hR.train j hj).leg m hm
    have h2 := hR.to j hj m hm
    exact ⟨by omega, by omega, by omega⟩

theorem tracksT_len {len : Nat} {g : Nat → Int} (h : ∀ k, k < len → 0 ≤ g k ∧ g k ≤ 99999999) : ∀ k, k ≤ len → (tracksT g k).length ≤ 6 + 9 * k
  | 0, _ => by simp [tracksT]
  | k + 1, hk => by
    have h1 := tracksT_len h k (by omega)
    have h2 := itoa_len (h k (by omega)).1 (h k (by omega)).2
    simp only [tracksT, List.length_append, List.length_cons]; omega
theorem gapT_len {gap : Int} (h : 0 ≤ gap ∧ gap ≤ 99999999) : (gapT gap).length ≤ 14 := by
  have := itoa_len h.1 h.2
  simp only [gapT, List.length_append, List.length_cons, List.length_nil]; omega
theorem legT_len {x : LegD} (h : (0 ≤ x.to ∧ x.to ≤ 99999999) ∧ (0 ≤ x.run ∧ x.run ≤ 99999999) ∧ (0 ≤ x.stay ∧ x.stay ≤ 99999999)) : (legT x).length ≤ 40 := by
  have h1 := itoa_len h.1.1 h.1.2
  have h2 := itoa_len h.2.1.1 h.2.1.2
  have h3 := itoa_len h.2.2.1 h.2.2.2
  simp only [legT, List.length_append, List.length_cons, List.length_nil]; omega
theorem trainT_len {t : TrainD} (h : (0 ≤ t.frm ∧ t.frm ≤ 99999999) ∧ (0 ≤ t.ready ∧ t.ready ≤ 99999999) ∧ (0 ≤ t.due ∧ t.due ≤ 99999999) ∧ (0 ≤ t.weight ∧ t.weight ≤ 99999999)) : (trainT t).length ≤ 60 := by
  have h1 := itoa_len h.1.1 h.1.2
  have h2 := itoa_len h.2.1.1 h.2.1.2
  have h3 := itoa_len h.2.2.1.1 h.2.2.1.2
  have h4 := itoa_len h.2.2.2.1 h.2.2.2.2
  simp only [trainT, List.length_append, List.length_cons, List.length_nil]; omega
theorem legsT_len {t : TrainD} {b : List UInt8} (h : ∀ m, m < t.nl → (legT (t.leg m)).length ≤ 40) : ∀ m, m ≤ t.nl → (legsT t b m).length ≤ b.length + 40 * m
  | 0, _ => by simp [legsT]
  | m + 1, hm => by
    have h1 := legsT_len (b := b) h m (by omega)
    have h2 := h m (by omega)
    simp only [legsT, List.length_append]; omega
theorem headT_len {len : Nat} {g : Nat → Int} {gap : Int} {np : Nat} {f : Nat → TrainD} (h : SmallL len g gap np f) : (headT len g gap).length ≤ 200 := by
  have h1 := tracksT_len h.tk len (Nat.le_refl _)
  have h2 := gapT_len h.gp
  have h3 := h.l12
  unfold headT
  rw [List.length_append]
  omega
theorem trainsT_len {len : Nat} {g : Nat → Int} {gap : Int} {np : Nat} {f : Nat → TrainD} {b : List UInt8} (h : SmallL len g gap np f) : ∀ j, j ≤ np → (trainsT f b j).length ≤ b.length + 460 * j
  | 0, _ => by simp [trainsT]
  | j + 1, hj => by
    have h1 := trainsT_len (b := b) h j (by omega)
    obtain ⟨h2, h3⟩ := h.tr j (by omega)
    have h4 := trainT_len h2
    have h5 := legsT_len (t := f j) (b := trainsT f b j ++ trainT (f j)) (fun m hm => legT_len (h.leg j (by omega) m hm)) (f j).nl (Nat.le_refl _)
    rw [List.length_append] at h5
    simp only [trainsT]; omega

/-! ### a row, by its words -/
def partsOf (ws : List (List UInt8)) (ns : Nat → Int) : Nat → List (List UInt8)
  | 0 => []
  | i + 1 => (if i < ws.length then partsOf ws ns i ++ [ws.getD i []] else partsOf ws ns i) ++ [Lib.itoa (ns i)]
def rowT (ws : List (List UInt8)) (ns : Nat → Int) (n : Nat) : List UInt8 := Lib.join (partsOf ws ns n) [32] ++ [10]
def wordsOf : Nat → List (List UInt8)
  | 0 => [[116, 114, 97, 99, 107, 115]]
  | 1 => [[103, 97, 112]]
  | 2 => [[116, 114, 97, 105, 110], [114, 101, 97, 100, 121], [100, 117, 101], [119, 101, 105, 103, 104, 116]]
  | _ => [[108, 101, 103], [114, 117, 110], [115, 116, 97, 121]]
theorem join_snoc {l : List (List UInt8)} (x sep : List UInt8) (h : l ≠ []) : Lib.join (l ++ [x]) sep = Lib.join l sep ++ (sep ++ x) := by
  cases l with
  | nil => exact absurd rfl h
  | cons y r => rw [List.cons_append, Lib.join_cons, Lib.join_cons]; simp [Lib.joinTail, List.append_assoc]
theorem partsOf_ne (ws : List (List UInt8)) (ns : Nat → Int) (i : Nat) : partsOf ws ns (i + 1) ≠ [] := by simp [partsOf]
theorem join_tracks (g : Nat → Int) : ∀ k, Lib.join (partsOf (wordsOf 0) g (k + 1)) [32] = tracksT g (k + 1)
  | 0 => by simp [partsOf, wordsOf, Lib.join_cons, Lib.joinTail, tracksT]
  | k + 1 => by
    rw [partsOf, if_neg (by simp [wordsOf]), join_snoc _ _ (partsOf_ne _ _ _), join_tracks g k]
    rfl
theorem rowT_tracks (g : Nat → Int) {n : Nat} (h : 1 ≤ n) : rowT (wordsOf 0) g n = tracksT g n ++ [10] := by
  obtain ⟨k, rfl⟩ : ∃ k, n = k + 1 := ⟨n - 1, by omega⟩
  unfold rowT
  rw [join_tracks]
theorem rowT_gap (gap : Int) : rowT (wordsOf 1) (fun i => [gap].getD i 0) 1 = [103, 97, 112, 32] ++ Lib.itoa gap ++ [10] := by
  simp [rowT, partsOf, wordsOf, Lib.join_cons, Lib.joinTail]
theorem rowT_train (t : TrainD) : rowT (wordsOf 2) (fun i => [t.frm, t.ready, t.due, t.weight].getD i 0) 4 = trainT t := by
  simp [rowT, partsOf, wordsOf, Lib.join_cons, Lib.joinTail, trainT]
theorem rowT_leg (x : LegD) : rowT (wordsOf 3) (fun i => [x.to, x.run, x.stay].getD i 0) 3 = legT x := by
  simp [rowT, partsOf, wordsOf, Lib.join_cons, Lib.joinTail, legT]
theorem head_eq {len : Nat} (g : Nat → Int) (gap : Int) (h : 1 ≤ len) : rowT (wordsOf 0) g len ++ rowT (wordsOf 1) (fun i => [gap].getD i 0) 1 = headT len g gap := by
  rw [rowT_tracks g h, rowT_gap]
  simp [headT, gapT, List.append_assoc]
def strCells (L : List (List UInt8)) : List Value := L.map fun l => .string (ba l)
theorem strCells_len (L : List (List UInt8)) : (strCells L).length = L.length := by simp [strCells]
theorem strCells_app (L M : List (List UInt8)) : strCells (L ++ M) = strCells L ++ strCells M := by simp [strCells]
theorem strCells_at (L : List (List UInt8)) (j : Nat) (x : List UInt8) (h : L[j]? = some x) : (strCells L)[j]? = some (.string (ba x)) := by simp [strCells, h]
theorem partsOf_len (ws : List (List UInt8)) (ns : Nat → Int) : ∀ i, (partsOf ws ns i).length ≤ 2 * i
  | 0 => by simp [partsOf]
  | i + 1 => by
    have := partsOf_len ws ns i
    unfold partsOf
    split <;> simp only [List.length_append, List.length_cons, List.length_nil] <;> omega
end Go.Proofs.YthnlkpifafklkaaGreatDoor

namespace Go.Proofs.YthnlkpifafklkaaGreatDoor
open Go.RowKit Go.Lib

/-- the table of powers that strconv reads -/
def TenIs (w : World) : Prop := Lib.TabIs Tryz.prog w "internal/strconv.uint64pow10" .u64 Lib.pow10Tab
theorem TenIs.later {w w' : World} (h : TenIs w) (hB : Below w.heap.size w w') : TenIs w' :=
  Go.Joins.var_stays (show Tryz.prog.globalNamed "internal/strconv.uint64pow10" = some 2 by kernel_rfl) h hB (Nat.le_refl _)
end Go.Proofs.YthnlkpifafklkaaGreatDoor

namespace Go.Proofs.YthnlkpifafklkaaGreatDoor
open Go.RowKit

theorem itoa_digits {n : Int} (h : 0 ≤ n) : Lib.itoa n = Lib.decDigits n.toNat := by unfold Lib.itoa; rw [if_neg (by omega)]
theorem digit_step {v : Nat} {l d : List UInt8} (hv : 0 < v) (h : Lib.decDigits v ++ l = d) : (v / 10 = 0 → UInt8.ofNat (48 + v % 10) :: l = d) ∧ (0 < v / 10 → Lib.decDigits (v / 10) ++ (UInt8.ofNat (48 + v % 10) :: l) = d) := by
  constructor
  · intro h0
    have h1 : v < 10 := by omega
    rw [Lib.decDigits_one h1] at h
    rw [← h, Nat.mod_eq_of_lt h1]
    rfl
  · intro h0
    have h1 : ¬ v < 10 := by omega
    rw [Lib.decDigits, dif_neg h1] at h
    rw [← h]
    simp

theorem nameV {P : Program} {c : Code} {Q : Exit → Act → World → Prop} {a : Act} {W : World} (h : ∀ W', W' = W → c.wp P Q a W') : c.wp P Q a W := h W rfl
theorem cat (s t : ByteArray) (l m : List UInt8) (hs : s = ba l) (ht : t = ba m) (h : l.length + m.length ≤ 1000000) : ∃ r, (∀ w, (Op.stringOp .add s t).run Tryz.prog w = .ok (.string r) w) ∧ Hid (r = ba (l ++ m)) :=
  ⟨_, fun w => (by rw [hs, ht]; exact add_ba l m h w), rfl⟩
theorem wrapq {q : Nat} (h : q ≤ 99999999) : wrap64 (q : Int) = (q : Int) := by
  unfold wrap64
  omega

set_option maxHeartbeats 4000000 in
theorem l4decimal_any (n : Int) (w : World) (h0 : 0 ≤ n) (h1 : n ≤ 99999999) : Calls Tryz.prog 51 #[.int .i64 n] w fun e w' => e = .returned (.string (ba (Lib.itoa n))) ∧ Below w.heap.size w w' := by
  by_cases hz : n = 0
  · subst hz
    have hv : ba (Lib.itoa 0) = ⟨#[48]⟩ := by rw [itoa_digits (by decide), Lib.decDigits_one (by decide)]; rfl
    rw [hv]
    go_enter Tryz.func51, Tryz.ntmps51
    go_wp2
    go_ret
    exact ⟨rfl, Below.refl _ _⟩
  · have hne : (n == 0) = false := by simpa using hz
    have hlen := itoa_len h0 h1
    have hd : Lib.decDigits n.toNat ++ [] = Lib.itoa n := by rw [itoa_digits h0, List.append_nil]
    generalize Lib.itoa n = D at hd hlen
    obtain ⟨N, rfl⟩ : ∃ N : Nat, n = (N : Int) := ⟨n.toNat, by omega⟩
    rw [Int.toNat_natCast] at hd
    have hN : 0 < N := by omega
    clear hz h0
    go_enter Tryz.func51, Tryz.ntmps51
    go_wp2
    go_loopw [0, 3] (fun nn oo wr => ∃ (v : Nat) (l : List UInt8), nn = .int .i64 v ∧ oo = .string (ba l) ∧ v ≤ 99999999 ∧ (v = 0 → l = D) ∧ (0 < v → Lib.decDigits v ++ l = D) ∧ Below w.heap.size w wr) (fun nn _ _ => (intOf nn).toNat)
    case atStart => exact ⟨N, [], rfl, rfl, by omega, fun h => by omega, fun _ => hd, Below.refl _ _⟩
    case round =>
      obtain ⟨v, l, rfl, rfl, hv, hz, hp, hB⟩ := hrel
      by_cases hv0 : 0 < v
      · have hlt : (0 : Int) < (v : Int) := by omega
        have hst := digit_step hv0 (hp hv0)
        have hll : l.length ≤ 8 := by have := congrArg List.length (hp hv0); simp at this; omega
        have hst' : Hid _ := hst
        have hr : Int.tmod (v : Int) 10 = ((v % 10 : Nat) : Int) := by rw [Int.tmod_eq_emod_of_nonneg (by omega)]; omega
        have hq : Int.tdiv (v : Int) 10 = ((v / 10 : Nat) : Int) := by rw [Int.tdiv_eq_ediv_of_nonneg (by omega)]; omega
        have hm : v % 10 < 10 := Nat.mod_lt _ (by decide)
        clear hz hp hst
        generalize v % 10 = r at hr hst' hm
        generalize v / 10 = q at hq hst'
        have hw8 : IntKind.u8.wrap (48 + (r : Int)) = 48 + (r : Int) := by rw [IntKind.wrap_u8]; omega
        have hw64 : IntKind.i64.wrap (48 + (r : Int)) = 48 + (r : Int) := by rw [IntKind.wrap_i64]; omega
        have hc1 : ∀ i, i < 1 → (wr.alloc (.cells #[.int .u8 (48 + (r : Int))] 5)).cell? ⟨wr.heap.size, 0 + i, none⟩ = some (.int .u8 ([48 + (r : Int)].getD i 0)) := fun i hi => by
          obtain rfl : i = 0 := by omega
          simp
        have hconv := run_convert_bytes_arg (P := Tryz.prog) (wr.alloc (.cells #[.int .u8 (48 + (r : Int))] 5)) 91 5 Tryz.underlying91 Tryz.underlying5 wr.heap.size 0 1 1 [48 + (r : Int)] rfl hc1 9 Tryz.underlying9
        have hs : strOfNums [48 + (r : Int)] = ba [UInt8.ofNat (48 + r)] := by
          unfold strOfNums ba
          have : (48 + (r : Int)).toNat = 48 + r := by omega
          simp [this]
        rw [hs] at hconv
        have hadd := add_ba [UInt8.ofNat (48 + r)] l (by simp; omega)
        clear hc1 hs
        generalize UInt8.ofNat (48 + r) = d at hconv hadd hst'
        have hqv : q < v := by
          have h2 : (v : Int).tdiv 10 = (v : Int) / 10 := Int.tdiv_eq_ediv_of_nonneg (by omega)
          omega
        have hqv' : Hid _ := hqv
        clear hqv
        generalize hs1 : ba [d] = s1 at hconv hadd
        generalize hs2 : ba l = s2 at hadd ⊢
        generalize hs3 : ba ([d] ++ l) = s3 at hadd
        have hs3' : Hid _ := hs3
        clear hs1 hs2 hs3
        go_wp2
        have hqv := hqv'.out
        have hs3 := hs3'.out
        subst hs3
        have hwq : wrap64 (q : Int) = (q : Int) := wrapq (Nat.le_trans (Nat.le_of_lt hqv) hv)
        rw [hwq]
        refine ⟨⟨q, d :: l, rfl, rfl, Nat.le_trans (Nat.le_of_lt hqv) hv, hst'.out.1, hst'.out.2, hB.alloc hB.size _⟩, ?_⟩
        show ((q : Int)).toNat < ((v : Int)).toNat
        rw [Int.toNat_natCast, Int.toNat_natCast]
        exact hqv
      · obtain rfl : v = 0 := by omega
        have hl := hz rfl
        subst hl
        go_wp2
        go_ret
        exact ⟨rfl, hB⟩
end Go.Proofs.YthnlkpifafklkaaGreatDoor

namespace Go.Proofs.YthnlkpifafklkaaGreatDoor
open Go.Shelf

def Tryz.laysM171_ren : Go.Shelf.Ren := ⟨fun | 171 => 92 | 243 => 117 | 246 => 135 | 283 => 142 | 284 => 143 | 285 => 144 | 286 => 145 | 129 => 155 | 317 => 154 | 318 => 156 | 319 => 157 | 320 => 158 | 337 => 167 | 338 => 168 | n => n, fun | 3 => 3 | 9 => 9 | 2 => 2 | 4 => 4 | 171 => 208 | 0 => 0 | 53 => 209 | 37 => 91 | 5 => 5 | 173 => 212 | 212 => 223 | 51 => 224 | 20 => 20 | 213 => 225 | 46 => 226 | 232 => 246 | 233 => 247 | n => n, fun | 17 => 2 | 18 => 5 | 19 => 6 | n => n⟩
theorem Tryz.laysM171 : Go.Proofs.LaysM.n171 Tryz.prog Tryz.laysM171_ren := {
  mixed := by kernel_rfl
  f129 := Tryz.func155.trans (congrArg some (by kernel_rfl))
  f171 := Tryz.func92.trans (congrArg some (by kernel_rfl))
  f243 := Tryz.func117.trans (congrArg some (by kernel_rfl))
  f246 := Tryz.func135.trans (congrArg some (by kernel_rfl))
  f283 := Tryz.func142.trans (congrArg some (by kernel_rfl))
  f284 := Tryz.func143.trans (congrArg some (by kernel_rfl))
  f285 := Tryz.func144.trans (congrArg some (by kernel_rfl))
  f286 := Tryz.func145.trans (congrArg some (by kernel_rfl))
  f317 := Tryz.func154.trans (congrArg some (by kernel_rfl))
  f318 := Tryz.func156.trans (congrArg some (by kernel_rfl))
  f319 := Tryz.func157.trans (congrArg some (by kernel_rfl))
  f320 := Tryz.func158.trans (congrArg some (by kernel_rfl))
  f337 := Tryz.func167.trans (congrArg some (by kernel_rfl))
  f338 := Tryz.func168.trans (congrArg some (by kernel_rfl))
  t0 := Tryz.underlying0
  a0 := Tryz.isAgg0
  z0 := Tryz.sizeOf0
  v0 := Tryz.zeroValue0
  t2 := Tryz.underlying2
  a2 := Tryz.isAgg2
  z2 := Tryz.sizeOf2
  v2 := Tryz.zeroValue2
  t3 := Tryz.underlying3
  a3 := Tryz.isAgg3
  z3 := Tryz.sizeOf3
  v3 := Tryz.zeroValue3
  t4 := Tryz.underlying4
  a4 := Tryz.isAgg4
  z4 := Tryz.sizeOf4
  v4 := Tryz.zeroValue4
  t5 := Tryz.underlying5
  a5 := Tryz.isAgg5
  z5 := Tryz.sizeOf5
  v5 := Tryz.zeroValue5
  t9 := Tryz.underlying9
  a9 := Tryz.isAgg9
  z9 := Tryz.sizeOf9
  v9 := Tryz.zeroValue9
  t20 := Tryz.underlying20
  a20 := Tryz.isAgg20
  z20 := Tryz.sizeOf20
  v20 := Tryz.zeroValue20
  t37 := Tryz.underlying91
  a37 := Tryz.isAgg91
  z37 := Tryz.sizeOf91
  v37 := Tryz.zeroValue91
  t46 := Tryz.underlying226
  a46 := Tryz.isAgg226
  z46 := Tryz.sizeOf226
  v46 := Tryz.zeroValue226
  t51 := Tryz.underlying224
  a51 := Tryz.isAgg224
  z51 := Tryz.sizeOf224
  v51 := Tryz.zeroValue224
  t53 := Tryz.underlying209
  a53 := Tryz.isAgg209
  z53 := Tryz.sizeOf209
  v53 := Tryz.zeroValue209
  t171 := Tryz.underlying208
  a171 := Tryz.isAgg208
  z171 := Tryz.sizeOf208
  v171 := Tryz.zeroValue208
  t173 := Tryz.underlying212
  a173 := Tryz.isAgg212
  z173 := Tryz.sizeOf212
  v173 := Tryz.zeroValue212
  t212 := Tryz.underlying223
  a212 := Tryz.isAgg223
  z212 := Tryz.sizeOf223
  v212 := Tryz.zeroValue223
  t213 := Tryz.underlying225
  a213 := Tryz.isAgg225
  z213 := Tryz.sizeOf225
  t232 := Tryz.underlying246
  a232 := Tryz.isAgg246
  z232 := Tryz.sizeOf246
  v232 := Tryz.zeroValue246
  t233 := Tryz.underlying247
  a233 := Tryz.isAgg247
  z233 := Tryz.sizeOf247
  v233 := Tryz.zeroValue247
  g17 := by kernel_rfl
  g18 := by kernel_rfl
  g19 := by kernel_rfl
  i0 := by kernel_rfl
  i2 := by kernel_rfl
  i3 := by kernel_rfl
  i4 := by kernel_rfl
  i5 := by kernel_rfl
  i9 := by kernel_rfl
  i20 := by kernel_rfl
  i37 := by kernel_rfl
  i46 := by kernel_rfl
  i51 := by kernel_rfl
  i53 := by kernel_rfl
  i171 := by kernel_rfl
  i173 := by kernel_rfl
  i212 := by kernel_rfl
  i232 := by kernel_rfl
  i233 := by kernel_rfl
  m17 := by kernel_rfl
  m18 := by kernel_rfl
  m19 := by kernel_rfl }
end Go.Proofs.YthnlkpifafklkaaGreatDoor

namespace Go.Proofs.YthnlkpifafklkaaGreatDoor
open Go.RowKit

theorem below_grow0 (w : World) (k : Nat) (os : Array Obj) : Below w.heap.size w (Go.Sort.grow (w.drewN k) os) :=
  ⟨rfl, rfl, rfl, by simp [Go.Sort.grow, World.drewN], fun b hb => by
    show (w.heap ++ os)[b]? = w.heap[b]?
    rw [Array.getElem?_append_left hb]⟩
theorem itoaI_any (n : Int) (w : World) (h0 : 0 ≤ n) (h1 : n ≤ 99999999) (hT : TenIs w) : Calls Tryz.prog 92 #[.int .i64 n] w fun e w' => e = .returned (.string (ba (Lib.itoa n))) ∧ Below w.heap.size w w' := by
  have h : Calls Tryz.prog 92 #[.int .i64 n] w fun e w' => e = .returned (.string ⟨(Lib.itoa n).toArray⟩) ∧ ∃ k os, w' = Go.Sort.grow (w.drewN k) os := Go.Proofs.Any.strconv_Itoa Tryz.laysM171 n (by omega) (by omega) w hT
  refine h.mono ?_
  rintro _ _ ⟨rfl, k, os, rfl⟩
  exact ⟨rfl, below_grow0 w k os⟩
end Go.Proofs.YthnlkpifafklkaaGreatDoor
