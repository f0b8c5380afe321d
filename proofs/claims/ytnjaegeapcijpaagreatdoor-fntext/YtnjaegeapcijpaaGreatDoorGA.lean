/-
  What the rows' listed variable gives; a world that meets the rows' condition.
  Tables and rows of texts, as a world lays them.
  A line as a text, over plain data.
  The table of powers, as it lies.
  The table of powers, as a row lists it.
  The words of the rows, as they lie.
  From the reading of an argument to its cells: a laws.Line by value.
  The words of the rows, as the program lays them: what their reading gives.
  A text as plain bytes: what a row of a kind is, taken piece by piece, and cut at its blanks.
  The numbers of a text: what Atoi and Itoa say of digits.
  The program's reader: it leaves.
  Where the library's HasPrefix, TrimLeft and Atoi lie in this program. (By the shelf's own tool; the numbers are the seat's: tools/shelfr.sh prints them anew.)
  The program's reader: what comes, and what is taken.
  The program's reader: the digits that come.
  The laws' copy of a plan: its rows have room for what they hold.
  The laws' own copies of an argument can be written into; what a store into them leaves as it was.
-/
import Derived.Test.YtnjaegeapcijpaaGreatDoorCards
import Derived.Test.YtnjaegeapcijpaaGreatDoorTie
import Derived.ProofKit
import Derived.OpenShut
import Derived.LaidHandle
import Derived.LaidLaws
import Derived.Deep.DeepHandedRow
import Derived.Lib.LaidTab
import Derived.Lib.SmallJoins
import Derived.Test.YtnjaegeapcijpaaGreatDoorPlainG
import Derived.Lib.ItoaNum
import Derived.Lib.Join
import Derived.Laws.Concat
import Derived.Test.YtnjaegeapcijpaaGreatDoorBase
import Derived.Deep.Slices
import Derived.Test.YtnjaegeapcijpaaGreatDoorRows
import Derived.SliceStrings
import Derived.Lib.AtoiAllCases
import Derived.Test.YtnjaegeapcijpaaGreatDoorTo
import Derived.WalkLawsBesides
import Derived.Test.YtnjaegeapcijpaaGreatDoorProg
import Derived.Shelf.Strings.Prefix
import Derived.Shelf.Strings.SlTrimAscii
import Derived.Shelf.Strconv.ErrVarAll
import Derived.Deep.RegionHeld3
import Derived.Test.YtnjaegeapcijpaaGreatDoorPlans
namespace Go.Proofs.YtnjaegeapcijpaaGreatDoor
open Go.ChangeShapes Go.WideShapes Go.ChangeAt Go.RowKit

theorem Tryz.own : ownKnob Tryz.prog.godebug = none := by kernel_rfl
theorem Tryz.et : Tryz.prog.globalNamed "errors.errorType" = some 1 := by kernel_rfl
theorem Tryz.rt : (Tryz.prog.cutTypes.find? (·.1 == "internal/reflectlite.rtype")).map (·.2) = some 194 := by kernel_rfl
theorem Tryz.oneRow : ((List.range 291).filter fun t => Tryz.prog.rowNamed t [101, 114, 114, 111, 114]) = [131] := by kernel_rfl
theorem Tryz.tsize : Tryz.prog.types.size = 291 := by kernel_rfl
theorem Tryz.laidOut : laidOutB Tryz.prog = true := by kernel_rfl

/-- what the row's list gives: the variable's one cell -/
theorem handle_of_laid {W : World} (h : laidMetH Tryz.prog [("errors.errorType", Rows.laid_errors_errorType)] W) : W.cell? ⟨1, 0, none⟩ = some (.iface 194 (.agg #[.pointer (some ⟨10, 131, none⟩)])) := by
  have h' : laidMet Tryz.prog [] W ∧ handlesMet Tryz.prog [("errors.errorType", Rows.laid_errors_errorType)] W := h
  obtain ⟨name, u, ty, e1, e2, e3, e4, e5⟩ := h'.2 _ (List.mem_singleton.2 rfl)
  have en : name = [101, 114, 114, 111, 114] := (Option.some.inj e1).symm
  subst en
  obtain rfl := Option.some.inj (Tryz.rt.symm.trans e2)
  have hm : ty ∈ (List.range 291).filter fun t => Tryz.prog.rowNamed t [101, 114, 114, 111, 114] := List.mem_filter.2 ⟨List.mem_range.2 (by rw [← Tryz.tsize]; exact e3), e4⟩
  rw [Tryz.oneRow] at hm
  obtain rfl := List.mem_singleton.1 hm
  have hh : typeHandle Tryz.prog 131 = .pointer (some ⟨10, 131, none⟩) := by kernel_rfl
  rw [hh] at e5
  simpa using World.var?_cell Tryz.et e5 0

/-- a world that meets the condition -/
noncomputable def laidWorld (os : Os) : World :=
  let w0 := World.holding Tryz.prog os ⟨#[], #[], []⟩
  { w0 with heap := w0.heap.modify 1 fun
      | .cells _ t frozen => .cells #[.iface 194 (.agg #[.pointer (some ⟨10, 131, none⟩)])] t frozen
      | o => o }
theorem laidWorld_met (os : Os) (args : Array Value) : laidMetH Tryz.prog [("errors.errorType", Rows.laid_errors_errorType)] ((laidWorld os).forCall (fun _ _ => 0) ⟨#[], args, []⟩).memory :=
  laidMetH_of_parts (laidMet_nil _ _) (by kernel_rfl)

end Go.Proofs.YtnjaegeapcijpaaGreatDoor

namespace Go.Proofs.YtnjaegeapcijpaaGreatDoor
open Go.ChangeShapes Go.WideShapes Go.ChangeAt Go.RowKit

/-- the cells of a datum of plain numbers -/
def dataCells : DataW Unit → Array Value
  | .agg l => (l.flatMap fun d => match d with
    | .lit x => [x.value]
    | .agg m => m.flatMap fun e => match e with
      | .lit x => [x.value]
      | _ => []
    | _ => []).toArray
  | _ => #[]
/-- a variable's cells, laid -/
def layVar (h : Array Obj) (g : Nat) (cs : Array Value) : Array Obj := h.modify g fun
  | .cells _ t frozen => .cells cs t frozen
  | o => o
/-- so many blocks has the settled world -/
noncomputable def lowB : Nat := (World.holding Tryz.prog default ⟨#[], #[], []⟩).heap.size
theorem laidMet_tail {x : String × DataW Unit} {l : List (String × DataW Unit)} {w : World} (h : laidMet Tryz.prog (x :: l) w) : laidMet Tryz.prog l w := by
  obtain ⟨ps, ⟨g, t, cs, fuel, p, q, h1, h2, h3, h4, h5, rfl⟩, hn, hr⟩ := h
  refine ⟨q, h5, (List.nodup_append.1 hn).2.1, fun b off hb => hr b off (List.mem_append_right _ hb)⟩
theorem handle_of {W : World} (h : handlesMet Tryz.prog [("errors.errorType", Rows.laid_errors_errorType)] W) : W.cell? ⟨1, 0, none⟩ = some (.iface 194 (.agg #[.pointer (some ⟨10, 131, none⟩)])) :=
  handle_of_laid (show laidMet Tryz.prog [] W ∧ handlesMet Tryz.prog [("errors.errorType", Rows.laid_errors_errorType)] W from ⟨laidMet_nil _ _, h⟩)
end Go.Proofs.YtnjaegeapcijpaaGreatDoor

namespace Go.Proofs.YtnjaegeapcijpaaGreatDoor
open Go.RowKit

/-- a text of these bytes -/
def ba (l : List UInt8) : ByteArray := ⟨l.toArray⟩
theorem ba_size (l : List UInt8) : (ba l).size = l.length := by show l.toArray.size = _; simp
theorem ba_append (l m : List UInt8) : ba l ++ ba m = ba (l ++ m) := by unfold ba; rw [ByteArray.mk_append_mk]
theorem ba_list (l : List UInt8) : (ba l).data.toList = l := by simp [ba]
theorem ba_of (s : ByteArray) : ba s.data.toList = s := by unfold ba; cases s; simp
theorem add_ba (l m : List UInt8) (h : l.length + m.length ≤ 1000000) (w : World) : (Op.stringOp .add (ba l) (ba m)).run Tryz.prog w = .ok (.string (ba (l ++ m))) w := by
  rw [run_string_add_sum w _ _ (by rw [ba_size, ba_size]; omega), ba_append]

theorem nDigits_le : ∀ (k u : Nat), u < 10 ^ (k + 1) → Lib.nDigits u ≤ k + 1
  | 0, u, h => by rw [Lib.nDigits_small (by simpa using h)]; omega
  | k + 1, u, h => by
    by_cases hu : u < 10
    · rw [Lib.nDigits_small hu]; omega
    · rw [Lib.nDigits_big hu]
      have := nDigits_le k (u / 10) (by rw [Nat.pow_succ] at h; exact Nat.div_lt_of_lt_mul (by rw [Nat.mul_comm]; exact h))
      omega
theorem itoa_len {n : Int} (h0 : 0 ≤ n) (h1 : n ≤ 99999999) : (Lib.itoa n).length ≤ 8 := by
  unfold Lib.itoa
  rw [if_neg (by omega), Lib.decDigits_length]
  exact nDigits_le 7 _ (by have : n.toNat < 100000000 := by omega
                           simpa using this)

/-- the row of the tracks, up to a station -/
def tracksT (g : Nat → Int) : Nat → List UInt8
  | 0 => [116, 114, 97, 99, 107, 115]
  | k + 1 => tracksT g k ++ (32 :: Lib.itoa (g k))
def gapT (gap : Int) : List UInt8 := [10, 103, 97, 112, 32] ++ Lib.itoa gap ++ [10]
def legT (x : LegD) : List UInt8 := [108, 101, 103, 32] ++ Lib.itoa x.to ++ [32, 114, 117, 110, 32] ++ Lib.itoa x.run ++ [32, 115, 116, 97, 121, 32] ++ Lib.itoa x.stay ++ [10]
def trainT (t : TrainD) : List UInt8 := [116, 114, 97, 105, 110, 32] ++ Lib.itoa t.frm ++ [32, 114, 101, 97, 100, 121, 32] ++ Lib.itoa t.ready ++ [32, 100, 117, 101, 32] ++ Lib.itoa t.due ++ [32, 119, 101, 105, 103, 104, 116, 32] ++ Lib.itoa t.weight ++ [10]
def legsT (t : TrainD) (b : List UInt8) : Nat → List UInt8
  | 0 => b
  | m + 1 => legsT t b m ++ legT (t.leg m)
def trainsT (f : Nat → TrainD) (b : List UInt8) : Nat → List UInt8
  | 0 => b
  | j + 1 => legsT (f j) (trainsT f b j ++ trainT (f j)) (f j).nl
def headT (len : Nat) (g : Nat → Int) (gap : Int) : List UInt8 := tracksT g len ++ gapT gap
def lineT (len : Nat) (g : Nat → Int) (gap : Int) (np : Nat) (f : Nat → TrainD) : List UInt8 := trainsT f (headT len g gap) np

/-- the numbers of a right line, as they bound a text -/
structure SmallL (len : Nat) (g : Nat → Int) (gap : Int) (np : Nat) (f : Nat → TrainD) : Prop where
  l12 : len ≤ 12
  l1 : 1 ≤ len
  n5 : np ≤ 5
  tk : ∀ k, k < len → 0 ≤ g k ∧ g k ≤ 99999999
  gp : 0 ≤ gap ∧ gap ≤ 99999999
  tr : ∀ j, j < np → ((0 ≤ (f j).frm ∧ (f j).frm ≤ 99999999) ∧ (0 ≤ (f j).ready ∧ (f j).ready ≤ 99999999) ∧ (0 ≤ (f j).due ∧ (f j).due ≤ 99999999) ∧ (0 ≤ (f j).weight ∧ (f j).weight ≤ 99999999)) ∧ (f j).nl ≤ 10
  leg : ∀ j, j < np → ∀ m, m < (f j).nl → (0 ≤ ((f j).leg m).to ∧ ((f j).leg m).to ≤ 99999999) ∧ (0 ≤ ((f j).leg m).run ∧ ((f j).leg m).run ≤ 99999999) ∧ (0 ≤ ((f j).leg m).stay ∧ ((f j).leg m).stay ≤ 99999999)

theorem smallL_of {len : Nat} {g : Nat → Int} {gap : Int} {np : Nat} {f : Nat → TrainD} (h : faultOf len g gap np f = (0, 0)) : SmallL len g gap np f := by
  have hR := rightL_of h
  have hG := rightG_of h
  have hst := hR.st
  have hst0 := hG.st0
  have hg0 := hG.g0
  have hg1 := hG.g1
  refine ⟨hR.st, by omega, hR.tr, fun k hk => ?_, by omega, fun j hj => ?_, fun j hj m hm => ?_⟩
  · have := hG.room k hk; omega
  · have h1 := hR.train j hj
    have h2 := hG.frm j hj
    have h3 := h1.r0
    have h4 := h1.r1
    have h5 := h1.d0
    have h6 := h1.d1
    have h7 := h1.w0
    have h8 := h1.w1
    exact ⟨⟨by omega, by omega, by omega, by omega⟩, h1.nl⟩
  · have h1 := (hR.train j hj).leg m hm
    have h2 := hR.to j hj m hm
    exact ⟨by omega, by omega, by omega⟩

theorem tracksT_len {len : Nat} {g : Nat → Int} (h : ∀ k, k < len → 0 ≤ g k ∧ g k ≤ 99999999) : ∀ k, k ≤ len → (tracksT g k).length ≤ 6 + 9 * k
  | 0, _ => by simp [tracksT]
  | k + 1, hk => by
    have h1 := tracksT_len h k (by omega)
    have h2 := itoa_len (h k (by omega)).1 (h k (by omega)).2
    simp only [tracksT, List.length_append, List.length_cons]; omega
theorem gapT_len {gap : Int} (h : 0 ≤ gap ∧ gap ≤ 99999999) : (gapT gap).length ≤ 14 := by
  have := itoa_len h.1 h.2
  simp only [gapT, List.length_append, List.length_cons, List.length_nil]; omega
theorem legT_len {x : LegD} (h : (0 ≤ x.to ∧ x.to ≤ 99999999) ∧ (0 ≤ x.run ∧ x.run ≤ 99999999) ∧ (0 ≤ x.stay ∧ x.stay ≤ 99999999)) : (legT x).length ≤ 40 := by
  have h1 := itoa_len h.1.1 h.1.2
  have h2 := itoa_len h.2.1.1 h.2.1.2
  have h3 := itoa_len h.2.2.1 h.2.2.2
  simp only [legT, List.length_append, List.length_cons, List.length_nil]; omega
theorem trainT_len {t : TrainD} (h : (0 ≤ t.frm ∧ t.frm ≤ 99999999) ∧ (0 ≤ t.ready ∧ t.ready ≤ 99999999) ∧ (0 ≤ t.due ∧ t.due ≤ 99999999) ∧ (0 ≤ t.weight ∧ t.weight ≤ 99999999)) : (trainT t).length ≤ 60 := by
  have h1 := itoa_len h.1.1 h.1.2
  have h2 := itoa_len h.2.1.1 h.2.1.2
  have h3 := itoa_len h.2.2.1.1 h.2.2.1.2
  have h4 := itoa_len h.2.2.2.1 h.2.2.2.2
  simp only [trainT, List.length_append, List.length_cons, List.length_nil]; omega
theorem legsT_len {t : TrainD} {b : List UInt8} (h : ∀ m, m < t.nl → (legT (t.leg m)).length ≤ 40) : ∀ m, m ≤ t.nl → (legsT t b m).length ≤ b.length + 40 * m
  | 0, _ => by simp [legsT]
  | m + 1, hm => by
    have h1 := legsT_len (b := b) h m (by omega)
    have h2 := h m (by omega)
    simp only [legsT, List.length_append]; omega
theorem headT_len {len : Nat} {g : Nat → Int} {gap : Int} {np : Nat} {f : Nat → TrainD} (h : SmallL len g gap np f) : (headT len g gap).length ≤ 200 := by
  have h1 := tracksT_len h.tk len (Nat.le_refl _)
  have h2 := gapT_len h.gp
  have h3 := h.l12
  unfold headT
  rw [List.length_append]
  omega
theorem trainsT_len {len : Nat} {g : Nat → Int} {gap : Int} {np : Nat} {f : Nat → TrainD} {b : List UInt8} (h : SmallL len g gap np f) : ∀ j, j ≤ np → (trainsT f b j).length ≤ b.length + 460 * j
  | 0, _ => by simp [trainsT]
  | j + 1, hj => by
    have h1 := trainsT_len (b := b) h j (by omega)
    obtain ⟨h2, h3⟩ := h.tr j (by omega)
    have h4 := trainT_len h2
    have h5 := legsT_len (t := f j) (b := trainsT f b j ++ trainT (f j)) (fun m hm => legT_len (h.leg j (by omega) m hm)) (f j).nl (Nat.le_refl _)
    rw [List.length_append] at h5
    simp only [trainsT]; omega

/-! ### a row, by its words -/
def partsOf (ws : List (List UInt8)) (ns : Nat → Int) : Nat → List (List UInt8)
  | 0 => []
  | i + 1 => (if i < ws.length then partsOf ws ns i ++ [ws.getD i []] else partsOf ws ns i) ++ [Lib.itoa (ns i)]
def rowT (ws : List (List UInt8)) (ns : Nat → Int) (n : Nat) : List UInt8 := Lib.join (partsOf ws ns n) [32] ++ [10]
def wordsOf : Nat → List (List UInt8)
  | 0 => [[116, 114, 97, 99, 107, 115]]
  | 1 => [[103, 97, 112]]
  | 2 => [[116, 114, 97, 105, 110], [114, 101, 97, 100, 121], [100, 117, 101], [119, 101, 105, 103, 104, 116]]
  | _ => [[108, 101, 103], [114, 117, 110], [115, 116, 97, 121]]
theorem join_snoc {l : List (List UInt8)} (x sep : List UInt8) (h : l ≠ []) : Lib.join (l ++ [x]) sep = Lib.join l sep ++ (sep ++ x) := by
  cases l with
  | nil => exact absurd rfl h
  | cons y r => rw [List.cons_append, Lib.join_cons, Lib.join_cons]; simp [Lib.joinTail, List.append_assoc]
theorem partsOf_ne (ws : List (List UInt8)) (ns : Nat → Int) (i : Nat) : partsOf ws ns (i + 1) ≠ [] := by simp [partsOf]
theorem join_tracks (g : Nat → Int) : ∀ k, Lib.join (partsOf (wordsOf 0) g (k + 1)) [32] = tracksT g (k + 1)
  | 0 => by simp [partsOf, wordsOf, Lib.join_cons, Lib.joinTail, tracksT]
  | k + 1 => by
    rw [partsOf, if_neg (by simp [wordsOf]), join_snoc _ _ (partsOf_ne _ _ _), join_tracks g k]
    rfl
theorem rowT_tracks (g : Nat → Int) {n : Nat} (h : 1 ≤ n) : rowT (wordsOf 0) g n = tracksT g n ++ [10] := by
  obtain ⟨k, rfl⟩ : ∃ k, n = k + 1 := ⟨n - 1, by omega⟩
  unfold rowT
  rw [join_tracks]
theorem rowT_gap (gap : Int) : rowT (wordsOf 1) (fun i => [gap].getD i 0) 1 = [103, 97, 112, 32] ++ Lib.itoa gap ++ [10] := by
  simp [rowT, partsOf, wordsOf, Lib.join_cons, Lib.joinTail]
theorem rowT_train (t : TrainD) : rowT (wordsOf 2) (fun i => [t.frm, t.ready, t.due, t.weight].getD i 0) 4 = trainT t := by
  simp [rowT, partsOf, wordsOf, Lib.join_cons, Lib.joinTail, trainT]
theorem rowT_leg (x : LegD) : rowT (wordsOf 3) (fun i => [x.to, x.run, x.stay].getD i 0) 3 = legT x := by
  simp [rowT, partsOf, wordsOf, Lib.join_cons, Lib.joinTail, legT]
theorem head_eq {len : Nat} (g : Nat → Int) (gap : Int) (h : 1 ≤ len) : rowT (wordsOf 0) g len ++ rowT (wordsOf 1) (fun i => [gap].getD i 0) 1 = headT len g gap := by
  rw [rowT_tracks g h, rowT_gap]
  simp [headT, gapT, List.append_assoc]
def strCells (L : List (List UInt8)) : List Value := L.map fun l => .string (ba l)
theorem strCells_len (L : List (List UInt8)) : (strCells L).length = L.length := by simp [strCells]
theorem strCells_app (L M : List (List UInt8)) : strCells (L ++ M) = strCells L ++ strCells M := by simp [strCells]
theorem strCells_at (L : List (List UInt8)) (j : Nat) (x : List UInt8) (h : L[j]? = some x) : (strCells L)[j]? = some (.string (ba x)) := by simp [strCells, h]
theorem partsOf_len (ws : List (List UInt8)) (ns : Nat → Int) : ∀ i, (partsOf ws ns i).length ≤ 2 * i
  | 0 => by simp [partsOf]
  | i + 1 => by
    have := partsOf_len ws ns i
    unfold partsOf
    split <;> simp only [List.length_append, List.length_cons, List.length_nil] <;> omega
end Go.Proofs.YtnjaegeapcijpaaGreatDoor

namespace Go.Proofs.YtnjaegeapcijpaaGreatDoor
open Go.RowKit Go.Lib

/-- the table of powers that strconv reads -/
def TenIs (w : World) : Prop := Lib.TabIs Tryz.prog w "internal/strconv.uint64pow10" .u64 Lib.pow10Tab
theorem TenIs.later {w w' : World} (h : TenIs w) (hB : Below w.heap.size w w') : TenIs w' :=
  Go.Joins.var_stays (show Tryz.prog.globalNamed "internal/strconv.uint64pow10" = some 2 by kernel_rfl) h hB (Nat.le_refl _)
end Go.Proofs.YtnjaegeapcijpaaGreatDoor

namespace Go.Proofs.YtnjaegeapcijpaaGreatDoor
open Go.ChangeShapes Go.WideShapes Go.ChangeAt Go.RowKit

theorem ten_of_laid {rest : List (String × DataW Unit)} {W : World} (h : laidMet Tryz.prog (("internal/strconv.uint64pow10", Rows.laid_internal_strconv_uint64pow10) :: rest) W) : TenIs W := by
  have e : (Rows.laid_internal_strconv_uint64pow10 : DataW Unit) = Lib.tabData .u64 Lib.pow10Tab := by rfl
  rw [e] at h
  exact Lib.tabIs_of_head (show Tryz.prog.globalNamed "internal/strconv.uint64pow10" = some 2 by kernel_rfl) (show (Tryz.prog.globals[2]?).map (·.type) = some 225 by kernel_rfl) Tryz.underlying225 Tryz.underlying52 (by kernel_rfl) (by kernel_rfl) h
end Go.Proofs.YtnjaegeapcijpaaGreatDoor

namespace Go.Proofs.YtnjaegeapcijpaaGreatDoor
open Go.RowKit Go.Lib

/-- the words of the rows, as they lie -/
def WordsIs (w : World) : Prop := ∀ k, k < 4 → ∃ b off cap, w.cell? ⟨0, k, none⟩ = some (.slice (some ⟨b, off, none⟩) (wordsOf k).length cap) ∧ ∀ i x, (wordsOf k)[i]? = some x → w.cell? ⟨b, off + i, none⟩ = some (.string (ba x))
theorem WordsIs.later {w w' : World} (h : WordsIs w) (hB : Below w.heap.size w w') : WordsIs w' := fun k hk => by
  obtain ⟨b, off, cap, h1, h2⟩ := h k hk
  exact ⟨b, off, cap, cellLater hB h1, fun i x hx => cellLater hB (h2 i x hx)⟩
end Go.Proofs.YtnjaegeapcijpaaGreatDoor

namespace Go.Proofs.YtnjaegeapcijpaaGreatDoor
open Go.RowKit Go.Deep Go.ChangeShapes Go.WideShapes Go.Joins

theorem Tryz.cellsInt : Tryz.prog.cellsOf 3 = 1 := by kernel_rfl
section
variable {H : Type} {enc : TypeId × Value → H} {w : World} {base : Nat} {spare : Nat → Bool} {held : Bool}

theorem spotOf {a : Addr} {i : Nat} {v : Value} (h : w.cell? (a.add 0) = some v) : ∃ b off, a = ⟨b, off, none⟩ ∧ a.add i = ⟨b, off + i, none⟩ := by
  obtain ⟨b, off, spot⟩ := a
  have hspot : spot = none := by simpa [Addr.add] using World.cell?_spot h
  subst hspot
  exact ⟨b, off, rfl, Go.WideShapes.add_plain _ _ _⟩

theorem readInts {fuel : Nat} {v : Value} {x : DataW H × List MemPlace} (h : DataW.trod enc Tryz.prog w base spare held fuel 23 [v] = some x) :
    ∃ (a : Option Addr) (len cap : Nat) (f : Nat → Int), v = .slice a len cap ∧ len ≤ maxLen ∧ IsInts 0 w.heap.size w a len f := by
  rcases open_slice1 Tryz.underlying23 Tryz.cellsInt h with ⟨hcs, _⟩ | ⟨a, len, cap, m, n, V, D, Pl, hcs, _, hl, hm, hmm, _, hx⟩
  · exact ⟨none, 0, 0, fun _ => 0, by simpa using hcs, Nat.zero_le _, fun j hj => absurd hj (Nat.not_lt_zero _)⟩
  · have hle : len ≤ m := by rw [hmm]; split <;> omega
    obtain ⟨f, hf⟩ := choose_lt (α := Int) (n := len) (p := fun i y => w.cell? (a.add i) = some (.int .i64 y)) (fun i hi => by
      obtain ⟨h1, h2⟩ := hx i (by omega)
      obtain ⟨y, e, _, _⟩ := DataW.trod_int Tryz.underlying3 h2
      simp at e
      exact ⟨y, by rw [h1, e]⟩)
    refine ⟨some a, len, cap, f, by simpa using hcs, by omega, fun j hj => ?_⟩
    obtain ⟨b, off, rfl, e⟩ := spotOf (i := j) (hf 0 (by omega))
    have := hf j hj
    rw [e] at this
    exact ⟨b, off, rfl, Nat.zero_le _, ltCell (a := ⟨b, _, none⟩) this, this⟩

theorem cells3Of {a : Addr} {cs : List Value} (h : w.cells? base a 3 = some cs) : ∃ x y z, cs = [x, y, z] ∧ w.cell? (a.add 0) = some x ∧ w.cell? (a.add 1) = some y ∧ w.cell? (a.add 2) = some z := by
  unfold World.cells? at h
  split at h
  · simp [List.range, List.range.loop, Option.bind_eq_some_iff] at h
    obtain ⟨x, hx, l, ⟨y, hy, l', ⟨z, hz, rfl⟩, rfl⟩, rfl⟩ := h
    exact ⟨x, y, z, rfl, hx, hy, hz⟩
  · cases h
theorem cells5Of {a : Addr} {cs : List Value} (h : w.cells? base a 5 = some cs) : ∃ x y z u v, cs = [x, y, z, u, v] ∧ w.cell? (a.add 0) = some x ∧ w.cell? (a.add 1) = some y ∧ w.cell? (a.add 2) = some z ∧ w.cell? (a.add 3) = some u ∧ w.cell? (a.add 4) = some v := by
  unfold World.cells? at h
  split at h
  · simp [List.range, List.range.loop, Option.bind_eq_some_iff] at h
    obtain ⟨x, hx, l, ⟨y, hy, l', ⟨z, hz, l'', ⟨u, hu, l3, ⟨v, hv, rfl⟩, rfl⟩, rfl⟩, rfl⟩, rfl⟩ := h
    exact ⟨x, y, z, u, v, rfl, hx, hy, hz, hu, hv⟩
  · cases h

instance : Inhabited LegD := ⟨⟨0, 0, 0⟩⟩
instance : Inhabited TrainD := ⟨⟨0, 0, 0, 0, 0, fun _ => default⟩⟩

end
end Go.Proofs.YtnjaegeapcijpaaGreatDoor

namespace Go.Proofs.YtnjaegeapcijpaaGreatDoor
open Go.RowKit Go.Lib Go.ChangeShapes Go.WideShapes

section
variable {H : Type} {enc : TypeId × Value → H} {w : World} {held : Bool}
theorem wordRow {fuel : Nat} {v : Value} {ws : List (List UInt8)} {p : List MemPlace} (hne : ws ≠ []) (h : DataW.trod enc Tryz.prog w 0 (fun _ => true) held fuel 119 [v] = some (.slice (ws.map fun x => .lit (.string x)) [], p)) :
    ∃ b off cap, v = .slice (some ⟨b, off, none⟩) ws.length cap ∧ ∀ i x, ws[i]? = some x → w.cell? ⟨b, off + i, none⟩ = some (.string (ba x)) := by
  rcases open_strings Tryz.underlying119 Tryz.underlying9 (show Tryz.prog.cellsOf 9 = 1 by kernel_rfl) h with ⟨_, hx⟩ | ⟨a, len, cap, ss, hcs, _, hl, hm, hz, hx, hcell, _⟩
  · cases hx
  · rw [if_pos rfl] at hz
    simp only [Prod.mk.injEq, DataW.slice.injEq, strs] at hx
    obtain ⟨⟨e1, _⟩, _⟩ := hx
    have hlen : ws.length = len := by
      have := congrArg List.length e1
      simp at this
      omega
    have hw : ∀ i x, ws[i]? = some x → w.cell? (a.add i) = some (.string (ba x)) := fun i x hi => by
      have hil : i < ws.length := (List.getElem?_eq_some_iff.1 hi).1
      have h1 := congrArg (·[i]?) e1
      simp only [List.getElem?_map, hi, Option.map_some, List.getElem?_take, if_pos (show i < len by omega)] at h1
      rw [hcell i (by omega)]
      cases hs : ss[i]? with
      | none => rw [hs] at h1; simp at h1
      | some s =>
        rw [hs] at h1
        simp at h1
        rw [List.getD, hs, h1]
        simp [ba_of]
    cases ws with
    | nil => exact absurd rfl hne
    | cons y r =>
      obtain ⟨b, off, rfl, _⟩ := spotOf (i := 0) (hw 0 y rfl)
      refine ⟨b, off, cap, by simpa [hlen] using hcs, fun i x hi => ?_⟩
      have := hw i x hi
      rw [Go.WideShapes.add_plain] at this
      exact this
end

theorem words_of_trod {w : World} {fuel : Nat} {cs : List Value} {p : List MemPlace} (h : DataW.trod (fun _ => ()) Tryz.prog w 0 (fun _ => true) false fuel 120 cs = some (Rows.laid_loop_example_stringline_impl_words, p)) :
    ∀ k, k < 4 → ∃ b off cap, cs[k]? = some (.slice (some ⟨b, off, none⟩) (wordsOf k).length cap) ∧ ∀ i x, (wordsOf k)[i]? = some x → w.cell? ⟨b, off + i, none⟩ = some (.string (ba x)) := by
  have hce : Tryz.prog.cellsOf 119 = 1 := by kernel_rfl
  have hct : Tryz.prog.cellsOf 120 = 4 := by kernel_rfl
  cases fuel with
  | zero => simp [DataW.trod] at h
  | succ fuel =>
    simp only [DataW.trod, Tryz.underlying120, hce, hct, Nat.mul_one] at h
    split at h
    · rename_i hl
      obtain ⟨xs, hm, hx⟩ := Option.map_eq_some_iff.1 h
      have hxs : xs.map (·.1) = [.slice ((wordsOf 0).map fun x => .lit (.string x)) [], .slice ((wordsOf 1).map fun x => .lit (.string x)) [], .slice ((wordsOf 2).map fun x => .lit (.string x)) [], .slice ((wordsOf 3).map fun x => .lit (.string x)) []] := by
        have := congrArg Prod.fst hx
        simpa [Rows.laid_loop_example_stringline_impl_words, wordsOf] using this
      intro k hk
      obtain ⟨y, hy, hf⟩ := Lib.mapM_at hm k k (by simp [hk])
      have h2 := congrArg (·[k]?) hxs
      simp only [List.getElem?_map, hy, Option.map_some] at h2
      have hv : ∃ v, (cs.drop k).take 1 = [v] ∧ cs[k]? = some v := by
        have hkc : k < cs.length := by omega
        exact ⟨cs[k], by rw [List.drop_eq_getElem_cons hkc, List.take_succ_cons, List.take_zero], List.getElem?_eq_getElem hkc⟩
      obtain ⟨v, hv1, hv2⟩ := hv
      have hd : y.1 = .slice ((wordsOf k).map fun x => .lit (.string x)) [] := by
        match k, hk with
        | 0, _ => simpa using h2
        | 1, _ => simpa using h2
        | 2, _ => simpa using h2
        | 3, _ => simpa using h2
      have hne : wordsOf k ≠ [] := by
        match k, hk with
        | 0, _ => simp [wordsOf]
        | 1, _ => simp [wordsOf]
        | 2, _ => simp [wordsOf]
        | 3, _ => simp [wordsOf]
      rw [hv1] at hf
      obtain ⟨b, off, cap, e, hc⟩ := wordRow hne (hf.trans (by rw [← hd]))
      exact ⟨b, off, cap, by rw [hv2, e], hc⟩
    · cases h
end Go.Proofs.YtnjaegeapcijpaaGreatDoor

namespace Go.Proofs.YtnjaegeapcijpaaGreatDoor
open Go.RowKit

abbrev Bs := List UInt8
def dig (b : UInt8) : Bool := decide (48 ≤ b.toNat) && decide (b.toNat ≤ 57)
def numVal (l : Bs) : Int := l.foldl (fun n b => 10 * n + ((b.toNat : Int) - 48)) 0
def numOk (l : Bs) : Bool := l.all dig && decide (0 < l.length) && decide (l.length ≤ 7) && (decide (l.length = 1) || !(l.head? == some 48))
/-- a line, cut at each of its blanks -/
def cutB : Bs → List Bs
  | [] => [[]]
  | b :: t => if b = 32 then [] :: cutB t else match cutB t with
    | x :: xs => (b :: x) :: xs
    | [] => [[b]]
/-- what stands in a pattern -/
inductive Tok where
  | word (w : Bs)
  | num
def tokOk : Tok → Bs → Option (List Int)
  | .word w, x => if x = w then some [] else none
  | .num, x => if numOk x then some [numVal x] else none
def likeB : List Tok → List Bs → Option (List Int)
  | [], [] => some []
  | t :: ts, x :: xs => (tokOk t x).bind fun a => (likeB ts xs).map fun b => a ++ b
  | [], _ :: _ => none
  | _ :: _, [] => none
/-- piece by piece -/
def takeB (p s : Bs) : Option Bs := if p.isPrefixOf s then some (s.drop p.length) else none
def numB (s : Bs) : Option (List Int × Bs) := if numOk (s.takeWhile dig) then some ([numVal (s.takeWhile dig)], s.drop (s.takeWhile dig).length) else none
def tokB : Tok → Bs → Option (List Int × Bs)
  | .word w, s => (takeB w s).map fun r => ([], r)
  | .num, s => numB s
/-- each behind a blank, and the row's end -/
def restB : List Tok → Bs → Option (List Int × Bs)
  | [], s => (takeB [10] s).map fun r => ([], r)
  | t :: ts, s => (takeB [32] s).bind fun r => (tokB t r).bind fun x => (restB ts x.2).map fun y => (x.1 ++ y.1, y.2)
def rowB : List Tok → Bs → Option (List Int × Bs)
  | [], s => restB [] s
  | t :: ts, s => (tokB t s).bind fun x => (restB ts x.2).map fun y => (x.1 ++ y.1, y.2)

theorem tokOk_word (w x : Bs) : tokOk (.word w) x = if x = w then some [] else none := rfl
theorem tokOk_num (x : Bs) : tokOk .num x = if numOk x then some [numVal x] else none := rfl
theorem tokB_word (w s : Bs) : tokB (.word w) s = (takeB w s).map fun r => ([], r) := rfl
theorem tokB_num (s : Bs) : tokB .num s = numB s := rfl

/-- no blank, no newline -/
def Free (x : Bs) : Prop := ∀ b ∈ x, b ≠ 32 ∧ b ≠ 10
def Good : Tok → Prop
  | .word w => Free w
  | .num => True

theorem takeB_one (c d : UInt8) (s : Bs) : takeB [c] (d :: s) = if c = d then some s else none := by
  unfold takeB
  by_cases h : c = d
  · subst h; simp
  · simp [h]
theorem dig_free {b : UInt8} (h : dig b = true) : b ≠ 32 ∧ b ≠ 10 := by
  constructor <;> (rintro rfl; revert h; decide)

theorem prefix_case {w x : Bs} {e : UInt8} {r : Bs} (hw : Free w) (he : e = 32 ∨ e = 10) (h : w <+: x ++ e :: r) : ∃ y, x = w ++ y := by
  induction w generalizing x with
  | nil => exact ⟨x, rfl⟩
  | cons b w ih =>
    cases x with
    | nil =>
      rw [List.nil_append, List.cons_prefix_cons] at h
      have := hw b (List.mem_cons_self ..)
      rcases he with rfl | rfl <;> simp_all
    | cons c x =>
      rw [List.cons_append, List.cons_prefix_cons] at h
      obtain ⟨y, rfl⟩ := ih (fun b hb => hw b (List.mem_cons_of_mem _ hb)) h.2
      exact ⟨y, by rw [h.1]; rfl⟩

theorem takeWhile_free {x : Bs} {e : UInt8} {r : Bs} (he : e = 32 ∨ e = 10) : (x ++ e :: r).takeWhile dig = x.takeWhile dig := by
  have hd : dig e = false := by rcases he with rfl | rfl <;> decide
  induction x with
  | nil => simp [List.takeWhile, hd]
  | cons b x ih =>
    rw [List.cons_append, List.takeWhile_cons, List.takeWhile_cons]
    split
    · rw [ih]
    · rfl
theorem takeWhile_all {x : Bs} (h : x.all dig = true) : x.takeWhile dig = x := by
  induction x with
  | nil => rfl
  | cons b x ih =>
    rw [List.all_cons, Bool.and_eq_true] at h
    rw [List.takeWhile_cons, if_pos h.1, ih h.2]
theorem takeWhile_split (x : Bs) : ∃ y, x = x.takeWhile dig ++ y ∧ (y = [] → x.takeWhile dig = x) := by
  refine ⟨x.dropWhile dig, (List.takeWhile_append_dropWhile ..).symm, fun h => ?_⟩
  have := List.takeWhile_append_dropWhile (p := dig) (l := x)
  rw [h, List.append_nil] at this
  exact this

/-- one piece, at a word that ends at e -/
theorem tokB_at {t : Tok} {x : Bs} {e : UInt8} {r : Bs} (ht : Good t) (hx : Free x) (he : e = 32 ∨ e = 10) :
    (∃ a, tokOk t x = some a ∧ tokB t (x ++ e :: r) = some (a, e :: r)) ∨ (tokOk t x = none ∧ (tokB t (x ++ e :: r) = none ∨ ∃ a c s, tokB t (x ++ e :: r) = some (a, c :: s) ∧ c ≠ 32 ∧ c ≠ 10)) := by
  cases t with
  | word w =>
    by_cases h : w <+: x ++ e :: r
    · have hp : w.isPrefixOf (x ++ e :: r) = true := List.isPrefixOf_iff_prefix.2 h
      obtain ⟨y, rfl⟩ := prefix_case ht he h
      have hb : tokB (.word w) (w ++ y ++ e :: r) = some ([], y ++ e :: r) := by
        rw [tokB_word]; unfold takeB
        rw [if_pos hp, List.append_assoc, List.drop_left]
        rfl
      cases y with
      | nil => exact Or.inl ⟨[], by simp [tokOk], by rw [hb]; rfl⟩
      | cons c y =>
        have hc := hx c (by simp)
        exact Or.inr ⟨by simp [tokOk], Or.inr ⟨[], c, y ++ e :: r, hb, hc⟩⟩
    · have hp : w.isPrefixOf (x ++ e :: r) = false := by
        rw [Bool.eq_false_iff]; exact fun hh => h (List.isPrefixOf_iff_prefix.1 hh)
      refine Or.inr ⟨?_, Or.inl ?_⟩
      · rw [tokOk_word]
        rw [if_neg]
        rintro rfl
        exact h (List.prefix_append _ _)
      · rw [tokB_word]; unfold takeB
        rw [hp]
        rfl
  | num =>
    have htw : (x ++ e :: r).takeWhile dig = x.takeWhile dig := takeWhile_free he
    obtain ⟨y, hy, hy0⟩ := takeWhile_split x
    by_cases hn : numOk (x.takeWhile dig) = true
    · have hb : tokB .num (x ++ e :: r) = some ([numVal (x.takeWhile dig)], y ++ e :: r) := by
        rw [tokB_num]; unfold numB
        rw [htw, if_pos hn]
        congr 2
        conv => lhs; arg 2; rw [hy]
        rw [List.append_assoc, List.drop_left]
      cases y with
      | nil =>
        have e0 := hy0 rfl
        rw [e0] at hn hb
        exact Or.inl ⟨[numVal x], by simp [tokOk, hn], by rw [hb]; rfl⟩
      | cons c y =>
        have hc := hx c (by rw [hy]; simp)
        refine Or.inr ⟨?_, Or.inr ⟨_, c, y ++ e :: r, hb, hc⟩⟩
        rw [tokOk_num]
        rw [if_neg]
        intro hk
        unfold numOk at hk
        simp only [Bool.and_eq_true] at hk
        have := takeWhile_all hk.1.1.1
        rw [this] at hy
        have := congrArg List.length hy
        simp at this
    · refine Or.inr ⟨?_, Or.inl ?_⟩
      · rw [tokOk_num]
        rw [if_neg]
        intro hk
        have hk' := hk
        unfold numOk at hk'
        simp only [Bool.and_eq_true] at hk'
        rw [takeWhile_all hk'.1.1.1] at hn
        exact hn hk
      · rw [tokB_num]; unfold numB
        rw [htw, if_neg hn]

/-- the rest of a line, its words apart -/
def tailT : List Bs → Bs → Bs
  | [], r => 10 :: r
  | x :: xs, r => 32 :: (x ++ tailT xs r)
theorem tailT_head (xs : List Bs) (r : Bs) : ∃ e s, tailT xs r = e :: s ∧ (e = 32 ∨ e = 10) := by
  cases xs with
  | nil => exact ⟨10, r, rfl, Or.inr rfl⟩
  | cons x xs => exact ⟨32, _, rfl, Or.inl rfl⟩
theorem restB_other {ts : List Tok} {c : UInt8} {s : Bs} (h : c ≠ 32 ∧ c ≠ 10) : restB ts (c :: s) = none := by
  cases ts with
  | nil => simp [restB, takeB_one, h.2.symm]
  | cons t ts => simp [restB, takeB_one, h.1.symm]
theorem restB_tail (ts : List Tok) (xs : List Bs) (r : Bs) (ht : ∀ t ∈ ts, Good t) (hx : ∀ x ∈ xs, Free x) : restB ts (tailT xs r) = (likeB ts xs).map fun a => (a, r) := by
  induction ts generalizing xs with
  | nil =>
    cases xs with
    | nil => simp [restB, tailT, takeB_one, likeB]
    | cons x xs => simp [restB, tailT, takeB_one, likeB]
  | cons t ts ih =>
    cases xs with
    | nil => simp [restB, tailT, takeB_one, likeB]
    | cons x xs =>
      have h1 := ih xs (fun t h => ht t (List.mem_cons_of_mem _ h)) (fun x h => hx x (List.mem_cons_of_mem _ h))
      obtain ⟨e, s, hs, he⟩ := tailT_head xs r
      rw [tailT, restB, takeB_one, if_pos rfl, hs, likeB]
      rw [hs] at h1
      show (tokB t (x ++ e :: s)).bind _ = _
      rcases tokB_at (r := s) (ht t (List.mem_cons_self ..)) (hx x (List.mem_cons_self ..)) he with ⟨a, h2, h3⟩ | ⟨h2, h3 | ⟨a, c, q, h3, hc⟩⟩
      · rw [h2, h3]
        show (restB ts (e :: s)).map _ = ((likeB ts xs).map _).map _
        rw [h1]
        cases likeB ts xs <;> rfl
      · rw [h2, h3]; rfl
      · rw [h2, h3]
        show (restB ts (c :: q)).map _ = none
        rw [restB_other hc]
        rfl
theorem rowB_line (ts : List Tok) (x : Bs) (xs : List Bs) (r : Bs) (h0 : ts ≠ []) (ht : ∀ t ∈ ts, Good t) (hx : ∀ y ∈ x :: xs, Free y) : rowB ts (x ++ tailT xs r) = (likeB ts (x :: xs)).map fun a => (a, r) := by
  have h := restB_tail ts (x :: xs) r ht hx
  cases ts with
  | nil => exact absurd rfl h0
  | cons t ts =>
    rw [← h, tailT, restB, takeB_one, if_pos rfl]
    rfl
/-- a line, cut: put together again -/
theorem cutB_line (l r : Bs) (h : ∀ b ∈ l, b ≠ 10) : ∃ x xs, cutB l = x :: xs ∧ l ++ 10 :: r = x ++ tailT xs r ∧ ∀ y ∈ x :: xs, Free y := by
  induction l with
  | nil => exact ⟨[], [], rfl, rfl, fun y hy => by rw [List.mem_singleton.1 hy]; exact fun b hb => by cases hb⟩
  | cons b t ih =>
    obtain ⟨x, xs, hc, he, hf⟩ := ih (fun b hb => h b (List.mem_cons_of_mem _ hb))
    by_cases hb : b = 32
    · subst hb
      refine ⟨[], x :: xs, by simp [cutB, hc], by rw [List.cons_append, he]; rfl, fun y hy => ?_⟩
      rcases List.mem_cons.1 hy with rfl | hy
      · exact fun b hb => by cases hb
      · exact hf y hy
    · refine ⟨b :: x, xs, by simp [cutB, hc, hb], by rw [List.cons_append, he]; rfl, fun y hy => ?_⟩
      rcases List.mem_cons.1 hy with rfl | hy
      · intro d hd
        rcases List.mem_cons.1 hd with rfl | hd
        · exact ⟨hb, h d (List.mem_cons_self ..)⟩
        · exact hf x (List.mem_cons_self ..) d hd
      · exact hf y (List.mem_cons_of_mem _ hy)
/-- the meeting point: a row, piece by piece, is the line cut at its blanks -/
theorem rowB_cut (ts : List Tok) (l r : Bs) (h0 : ts ≠ []) (ht : ∀ t ∈ ts, Good t) (h : ∀ b ∈ l, b ≠ 10) : rowB ts (l ++ 10 :: r) = (likeB ts (cutB l)).map fun a => (a, r) := by
  obtain ⟨x, xs, hc, he, hf⟩ := cutB_line l r h
  rw [hc, he]
  exact rowB_line ts x xs r h0 ht hf

theorem takeB_sub {p s r : Bs} (h : takeB p s = some r) : s = p ++ r := by
  unfold takeB at h
  split at h
  · rename_i hp
    obtain ⟨q, rfl⟩ := List.isPrefixOf_iff_prefix.1 hp
    rw [List.drop_left] at h
    rw [Option.some.inj h]
  · cases h
theorem tokB_sub {t : Tok} {s r : Bs} {a : List Int} (h : tokB t s = some (a, r)) : ∃ p, s = p ++ r := by
  cases t with
  | word w =>
    rw [tokB_word] at h
    cases e : takeB w s with
    | none => rw [e] at h; cases h
    | some q => rw [e] at h; cases h; exact ⟨w, takeB_sub e⟩
  | num =>
    rw [tokB_num] at h; unfold numB at h
    split at h
    · simp only [Option.some.injEq, Prod.mk.injEq] at h
      exact ⟨s.take (s.takeWhile dig).length, by rw [← h.2, List.take_append_drop]⟩
    · cases h
theorem restB_newline {ts : List Tok} {s r : Bs} {a : List Int} (h : restB ts s = some (a, r)) : 10 ∈ s := by
  induction ts generalizing s a with
  | nil =>
    unfold restB at h
    cases e : takeB [10] s with
    | none => rw [e] at h; cases h
    | some q => rw [takeB_sub e]; simp
  | cons t ts ih =>
    unfold restB at h
    cases e : takeB [32] s with
    | none => rw [e] at h; cases h
    | some q =>
      rw [e] at h
      cases e2 : tokB t q with
      | none => simp [e2] at h
      | some x =>
        obtain ⟨b, q2⟩ := x
        cases e3 : restB ts q2 with
        | none => simp [e2, e3] at h
        | some y =>
          obtain ⟨p, rfl⟩ := tokB_sub e2
          have := ih (s := q2) (a := y.1) (by
            obtain ⟨y1, y2⟩ := y
            simp [e2, e3] at h
            rw [e3, h.2])
          rw [takeB_sub e]
          simp [this]
/-- without a newline there is no row -/
theorem rowB_none (ts : List Tok) (s : Bs) (h : 10 ∉ s) : rowB ts s = none := by
  cases e : rowB ts s with
  | none => rfl
  | some x =>
    obtain ⟨a, r⟩ := x
    cases ts with
    | nil => exact absurd (restB_newline e) h
    | cons t ts =>
      unfold rowB at e
      cases e2 : tokB t s with
      | none => simp [e2] at e
      | some x =>
        obtain ⟨b, q⟩ := x
        cases e3 : restB ts q with
        | none => simp [e2, e3] at e
        | some y =>
          obtain ⟨y1, y2⟩ := y
          obtain ⟨p, rfl⟩ := tokB_sub e2
          exact absurd (List.mem_append_right p (restB_newline e3)) h
end Go.Proofs.YtnjaegeapcijpaaGreatDoor

namespace Go.Proofs.YtnjaegeapcijpaaGreatDoor
open Go.RowKit

theorem dig_range {b : UInt8} (h : dig b = true) : 48 ≤ b.toNat ∧ b.toNat ≤ 57 := by
  unfold dig at h
  simpa using h
def natVal (acc : Nat) (l : Bs) : Nat := l.foldl (fun n b => n * 10 + (b.toNat - 48)) acc
theorem natVal_snoc (acc : Nat) (x : Bs) (b : UInt8) : natVal acc (x ++ [b]) = natVal acc x * 10 + (b.toNat - 48) := by
  unfold natVal
  rw [List.foldl_append]
  rfl
theorem numVal_nat (l : Bs) (h : l.all dig = true) : numVal l = (natVal 0 l : Int) := by
  unfold numVal natVal
  suffices ∀ (acc : Nat), l.foldl (fun n b => 10 * n + ((b.toNat : Int) - 48)) (acc : Int) = ((l.foldl (fun n b => n * 10 + (b.toNat - 48)) acc : Nat) : Int) from this 0
  induction l with
  | nil => exact fun _ => rfl
  | cons b l ih =>
    intro acc
    rw [List.all_cons, Bool.and_eq_true] at h
    have hb := dig_range h.1
    rw [List.foldl_cons, List.foldl_cons, ← ih h.2]
    congr 1
    omega
theorem parse_digits (l : Bs) : ∀ (acc j : Nat), l.all dig = true → acc < 10 ^ j → j + l.length ≤ 17 → Lib.parseUint10 acc l = .ok (natVal acc l) ∧ natVal acc l < 10 ^ (j + l.length) := by
  induction l with
  | nil => exact fun acc j _ ha _ => ⟨rfl, ha⟩
  | cons b l ih =>
    intro acc j h ha hj
    rw [List.all_cons, Bool.and_eq_true] at h
    rw [List.length_cons] at hj
    have hb := dig_range h.1
    have h1 : 10 ^ j ≤ 10 ^ 16 := Nat.pow_le_pow_right (by decide) (by omega)
    have h2 : (10 : Nat) ^ 16 = 10000000000000000 := by decide
    have h3 : acc * 10 + (b.toNat - 48) < 10 ^ (j + 1) := by rw [Nat.pow_succ]; omega
    obtain ⟨e1, e2⟩ := ih (acc * 10 + (b.toNat - 48)) (j + 1) h.2 h3 (by omega)
    refine ⟨?_, by rw [List.length_cons, show j + (l.length + 1) = j + 1 + l.length by omega]; exact e2⟩
    rw [Lib.parseUint10, if_pos hb, if_neg (by omega), if_neg (by omega)]
    exact e1
theorem decDigits_val (n : Nat) : ∀ (l : Bs), l.length = n + 1 → l.all dig = true → (l.length = 1 ∨ l.head? ≠ some 48) → Lib.decDigits (natVal 0 l) = l ∧ (l.head? ≠ some 48 → 0 < natVal 0 l) := by
  induction n with
  | zero =>
    intro l hl hd _
    obtain ⟨b, rfl⟩ : ∃ b, l = [b] := List.length_eq_one_iff.1 hl
    have hb := dig_range (b := b) (by simpa using hd)
    have hv : natVal 0 [b] = b.toNat - 48 := by simp [natVal]
    rw [hv]
    refine ⟨?_, fun hne => ?_⟩
    · rw [Lib.decDigits_one (by omega), show 48 + (b.toNat - 48) = b.toNat by omega, UInt8.ofNat_toNat]
    · have : b.toNat ≠ 48 := fun e => hne (by rw [← UInt8.ofNat_toNat (x := b), e]; rfl)
      omega
  | succ n ih =>
    intro l hl hd hh
    rcases List.eq_nil_or_concat l with rfl | ⟨x, b, rfl⟩
    · simp at hl
    · rw [List.concat_eq_append] at *
      rw [List.length_append, List.length_singleton] at hl
      rw [List.all_append, Bool.and_eq_true] at hd
      have hb := dig_range (b := b) (by simpa using hd.2)
      have hx : x ≠ [] := by rintro rfl; simp at hl
      have hhd : (x ++ [b]).head? = x.head? := by cases x with
        | nil => exact absurd rfl hx
        | cons c x => rfl
      have hne : x.head? ≠ some 48 := by
        rcases hh with h | h
        · rw [List.length_append, List.length_singleton] at h; omega
        · rw [← hhd]; exact h
      obtain ⟨e1, e2⟩ := ih x (by omega) hd.1 (Or.inr hne)
      have hp := e2 hne
      rw [natVal_snoc]
      refine ⟨?_, fun _ => by omega⟩
      rw [Lib.decDigits, dif_neg (by omega), show (natVal 0 x * 10 + (b.toNat - 48)) / 10 = natVal 0 x by omega, show 48 + (natVal 0 x * 10 + (b.toNat - 48)) % 10 = b.toNat by omega, UInt8.ofNat_toNat, e1]
theorem numOk_parts {l : Bs} (h : numOk l = true) : l.all dig = true ∧ 0 < l.length ∧ l.length ≤ 7 ∧ (l.length = 1 ∨ l.head? ≠ some 48) := by
  unfold numOk at h
  simp only [Bool.and_eq_true, Bool.or_eq_true, decide_eq_true_eq, Bool.not_eq_true', beq_eq_false_iff_ne] at h
  exact ⟨h.1.1.1, h.1.1.2, h.1.2, h.2⟩
theorem numOk_of {l : Bs} (h1 : l.all dig = true) (h2 : 0 < l.length) (h3 : l.length ≤ 7) (h4 : l.length = 1 ∨ l.head? ≠ some 48) : numOk l = true := by
  unfold numOk
  simp only [Bool.and_eq_true, Bool.or_eq_true, decide_eq_true_eq, Bool.not_eq_true', beq_eq_false_iff_ne]
  exact ⟨⟨⟨h1, h2⟩, h3⟩, h4⟩
/-- a number that may stand in a text -/
theorem num_ok {l : Bs} (h : numOk l = true) : Lib.atoiAll l = .ok (numVal l) ∧ 0 ≤ numVal l ∧ numVal l ≤ 9999999 ∧ Lib.itoa (numVal l) = l := by
  obtain ⟨h1, h2, h3, h4⟩ := numOk_parts h
  obtain ⟨e1, e2⟩ := parse_digits l 0 0 h1 (by decide) (by omega)
  have hlt : natVal 0 l < 10 ^ 7 := Nat.lt_of_lt_of_le e2 (Nat.pow_le_pow_right (by decide) (by omega))
  have h7 : (10 : Nat) ^ 7 = 10000000 := by decide
  rw [numVal_nat l h1]
  refine ⟨?_, by omega, by omega, ?_⟩
  · cases l with
    | nil => simp at h2
    | cons c r =>
      rw [List.all_cons, Bool.and_eq_true] at h1
      have hc := dig_range h1.1
      rw [Lib.atoiAll_plain c r (by omega) (by omega)]
      unfold Lib.parseMag
      rw [if_neg (by simp), e1]
      unfold Lib.signless
      show (if 9223372036854775808 ≤ natVal 0 (c :: r) then _ else _) = _
      rw [if_neg (by omega)]
  · unfold Lib.itoa
    rw [if_neg (by omega), Int.toNat_natCast]
    exact (decDigits_val (l.length - 1) l (by omega) h1 h4).1
theorem decDigits_good (u : Nat) : (Lib.decDigits u).all dig = true ∧ 0 < (Lib.decDigits u).length ∧ (0 < u → (Lib.decDigits u).head? ≠ some 48) := by
  have hdig : ∀ k, k < 10 → dig (UInt8.ofNat (48 + k)) = true ∧ (0 < k → UInt8.ofNat (48 + k) ≠ 48) := by decide
  induction u using Nat.strongRecOn with
  | _ u ih =>
    by_cases h : u < 10
    · rw [Lib.decDigits_one h]
      exact ⟨by rw [List.all_cons, (hdig u h).1]; rfl, Nat.one_pos, fun h0 e => (hdig u h).2 h0 (Option.some.inj e)⟩
    · obtain ⟨i1, i2, i3⟩ := ih (u / 10) (by omega)
      rw [Lib.decDigits, dif_neg h]
      refine ⟨by rw [List.all_append, i1, List.all_cons, (hdig (u % 10) (by omega)).1]; rfl, by simp, fun _ => ?_⟩
      have := i3 (by omega)
      cases e : Lib.decDigits (u / 10) with
      | nil => rw [e] at i2; simp at i2
      | cons c r => rw [e] at this; exact this
theorem numOk_itoa {v : Int} (h0 : 0 ≤ v) (h1 : v ≤ 9999999) : numOk (Lib.itoa v) = true := by
  unfold Lib.itoa
  rw [if_neg (by omega)]
  obtain ⟨g1, g2, g3⟩ := decDigits_good v.toNat
  have h7 : (10 : Nat) ^ (6 + 1) = 10000000 := by decide
  have hlen : (Lib.decDigits v.toNat).length ≤ 7 := by rw [Lib.decDigits_length]; exact nDigits_le 6 v.toNat (by omega)
  refine numOk_of g1 g2 hlen ?_
  by_cases hz : v.toNat = 0
  · exact Or.inl (by rw [hz, Lib.decDigits_one (by decide)]; rfl)
  · exact Or.inr (g3 (by omega))
/-- digits that may not -/
theorem num_no {l : Bs} (hd : l.all dig = true) (h : numOk l = false) : Lib.atoiAll l = .«syntax» ∨ Lib.atoiAll l = .range ∨ ∃ v, Lib.atoiAll l = .ok v ∧ (9999999 < v ∨ Lib.itoa v ≠ l) := by
  cases e : Lib.atoiAll l with
  | «syntax» => exact Or.inl rfl
  | range => exact Or.inr (Or.inl rfl)
  | ok v =>
    refine Or.inr (Or.inr ⟨v, rfl, ?_⟩)
    by_cases hv : 9999999 < v
    · exact Or.inl hv
    · refine Or.inr fun hi => ?_
      by_cases h0 : 0 ≤ v
      · have := numOk_itoa h0 (by omega)
        rw [hi, h] at this
        cases this
      · unfold Lib.itoa at hi
        rw [if_pos (by omega)] at hi
        rw [← hi, List.all_cons, Bool.and_eq_true] at hd
        exact absurd hd.1 (by decide)
end Go.Proofs.YtnjaegeapcijpaaGreatDoor

namespace Go.Proofs.YtnjaegeapcijpaaGreatDoor
open Go.RowKit

theorem leave_any (b : Nat) (row : Int) (w : World) (h1 : w.cell? ⟨b, 1, none⟩ = some (.int .i64 row)) :
    Calls Tryz.prog 146 #[.pointer (some ⟨b, 0, none⟩)] w fun e w' => e = .panicked [{ v := .iface 125 (.agg #[.int .i64 row]), recovered := false }] ∧ w' = w := by
  go_enter Tryz.func146, Tryz.ntmps146
  go_wp2
  exact ⟨rfl, rfl, rfl⟩
end Go.Proofs.YtnjaegeapcijpaaGreatDoor

namespace Go.Proofs.YtnjaegeapcijpaaGreatDoor
open Go.Shelf

def Tryz.lays161_ren : Go.Shelf.Ren := ⟨fun | 161 => 147 | 231 => 156 | 227 => 157 | 233 => 158 | 235 => 159 | 228 => 165 | 197 => 166 | 151 => 167 | 260 => 173 | 152 => 174 | 137 => 178 | 119 => 179 | 224 => 180 | 225 => 181 | 217 => 184 | 266 => 185 | n => n, fun | 9 => 9 | 4 => 4 | 3 => 3 | 5 => 5 | 117 => 230 | 116 => 229 | 0 => 0 | 124 => 233 | 105 => 236 | 21 => 21 | 119 => 254 | 46 => 114 | 139 => 257 | 138 => 256 | n => n, fun | 3 => 8 | 4 => 9 | n => n⟩
theorem Tryz.lays161 : Go.Proofs.Lays.n161 Tryz.prog Tryz.lays161_ren := {
  mixed := by kernel_rfl
  f119 := Tryz.func179.trans (congrArg some (by kernel_rfl))
  f137 := Tryz.func178.trans (congrArg some (by kernel_rfl))
  f151 := Tryz.func167.trans (congrArg some (by kernel_rfl))
  f152 := Tryz.func174.trans (congrArg some (by kernel_rfl))
  f161 := Tryz.func147.trans (congrArg some (by kernel_rfl))
  f197 := Tryz.func166.trans (congrArg some (by kernel_rfl))
  f217 := Tryz.func184.trans (congrArg some (by kernel_rfl))
  f224 := Tryz.func180.trans (congrArg some (by kernel_rfl))
  f225 := Tryz.func181.trans (congrArg some (by kernel_rfl))
  f227 := Tryz.func157.trans (congrArg some (by kernel_rfl))
  f228 := Tryz.func165.trans (congrArg some (by kernel_rfl))
  f231 := Tryz.func156.trans (congrArg some (by kernel_rfl))
  f233 := Tryz.func158.trans (congrArg some (by kernel_rfl))
  f235 := Tryz.func159.trans (congrArg some (by kernel_rfl))
  f260 := Tryz.func173.trans (congrArg some (by kernel_rfl))
  f266 := Tryz.func185.trans (congrArg some (by kernel_rfl))
  t0 := Tryz.underlying0
  a0 := Tryz.isAgg0
  z0 := Tryz.sizeOf0
  v0 := Tryz.zeroValue0
  t3 := Tryz.underlying3
  a3 := Tryz.isAgg3
  z3 := Tryz.sizeOf3
  v3 := Tryz.zeroValue3
  t4 := Tryz.underlying4
  a4 := Tryz.isAgg4
  z4 := Tryz.sizeOf4
  v4 := Tryz.zeroValue4
  t5 := Tryz.underlying5
  a5 := Tryz.isAgg5
  z5 := Tryz.sizeOf5
  v5 := Tryz.zeroValue5
  t9 := Tryz.underlying9
  a9 := Tryz.isAgg9
  z9 := Tryz.sizeOf9
  v9 := Tryz.zeroValue9
  t21 := Tryz.underlying21
  a21 := Tryz.isAgg21
  z21 := Tryz.sizeOf21
  v21 := Tryz.zeroValue21
  t46 := Tryz.underlying114
  a46 := Tryz.isAgg114
  z46 := Tryz.sizeOf114
  v46 := Tryz.zeroValue114
  t105 := Tryz.underlying236
  a105 := Tryz.isAgg236
  z105 := Tryz.sizeOf236
  v105 := Tryz.zeroValue236
  t116 := Tryz.underlying229
  a116 := Tryz.isAgg229
  z116 := Tryz.sizeOf229
  t117 := Tryz.underlying230
  a117 := Tryz.isAgg230
  z117 := Tryz.sizeOf230
  v117 := Tryz.zeroValue230
  t119 := Tryz.underlying254
  a119 := Tryz.isAgg254
  z119 := Tryz.sizeOf254
  t124 := Tryz.underlying233
  a124 := Tryz.isAgg233
  z124 := Tryz.sizeOf233
  v124 := Tryz.zeroValue233
  t138 := Tryz.underlying256
  a138 := Tryz.isAgg256
  z138 := Tryz.sizeOf256
  v138 := Tryz.zeroValue256
  t139 := Tryz.underlying257
  a139 := Tryz.isAgg257
  z139 := Tryz.sizeOf257
  v139 := Tryz.zeroValue257
  g3 := by kernel_rfl
  g4 := by kernel_rfl }
def Tryz.laysC172_ren : Go.Shelf.Ren := ⟨fun | 172 => 148 | 244 => 160 | 245 => 161 | 247 => 168 | 279 => 169 | 280 => 170 | 281 => 171 | 282 => 172 | 287 => 175 | 316 => 176 | 171 => 72 | 205 => 177 | 321 => 182 | 322 => 183 | 243 => 99 | 246 => 123 | 283 => 139 | 284 => 140 | 285 => 141 | 286 => 142 | 129 => 94 | 317 => 151 | 318 => 152 | 319 => 153 | 320 => 154 | 337 => 163 | 338 => 164 | n => n, fun | 9 => 9 | 3 => 3 | 75 => 131 | 76 => 162 | 4 => 4 | 5 => 5 | 167 => 239 | 37 => 22 | 0 => 0 | 85 => 240 | 2 => 2 | 168 => 242 | 53 => 52 | 175 => 248 | 46 => 114 | 210 => 252 | 127 => 190 | 145 => 264 | 143 => 262 | 21 => 21 | 171 => 216 | 173 => 218 | 212 => 225 | 51 => 152 | 20 => 20 | 213 => 226 | 232 => 245 | 233 => 246 | 80 => 164 | n => n, fun | 15 => 6 | 16 => 7 | 17 => 2 | 18 => 4 | 19 => 5 | n => n⟩
theorem Tryz.laysC172 : Go.Proofs.LaysC.n172 Tryz.prog Tryz.laysC172_ren := {
  mixed := by kernel_rfl
  f129 := Tryz.func94.trans (congrArg some (by kernel_rfl))
  f171 := Tryz.func72.trans (congrArg some (by kernel_rfl))
  f172 := Tryz.func148.trans (congrArg some (by kernel_rfl))
  f205 := Tryz.func177.trans (congrArg some (by kernel_rfl))
  f243 := Tryz.func99.trans (congrArg some (by kernel_rfl))
  f244 := Tryz.func160.trans (congrArg some (by kernel_rfl))
  f245 := Tryz.func161.trans (congrArg some (by kernel_rfl))
  f246 := Tryz.func123.trans (congrArg some (by kernel_rfl))
  f247 := Tryz.func168.trans (congrArg some (by kernel_rfl))
  f279 := Tryz.func169.trans (congrArg some (by kernel_rfl))
  f280 := Tryz.func170.trans (congrArg some (by kernel_rfl))
  f281 := Tryz.func171.trans (congrArg some (by kernel_rfl))
  f282 := Tryz.func172.trans (congrArg some (by kernel_rfl))
  f283 := Tryz.func139.trans (congrArg some (by kernel_rfl))
  f284 := Tryz.func140.trans (congrArg some (by kernel_rfl))
  f285 := Tryz.func141.trans (congrArg some (by kernel_rfl))
  f286 := Tryz.func142.trans (congrArg some (by kernel_rfl))
  f287 := Tryz.func175.trans (congrArg some (by kernel_rfl))
  f316 := Tryz.func176.trans (congrArg some (by kernel_rfl))
  f317 := Tryz.func151.trans (congrArg some (by kernel_rfl))
  f318 := Tryz.func152.trans (congrArg some (by kernel_rfl))
  f319 := Tryz.func153.trans (congrArg some (by kernel_rfl))
  f320 := Tryz.func154.trans (congrArg some (by kernel_rfl))
  f321 := Tryz.func182.trans (congrArg some (by kernel_rfl))
  f322 := Tryz.func183.trans (congrArg some (by kernel_rfl))
  f337 := Tryz.func163.trans (congrArg some (by kernel_rfl))
  f338 := Tryz.func164.trans (congrArg some (by kernel_rfl))
  t0 := Tryz.underlying0
  a0 := Tryz.isAgg0
  z0 := Tryz.sizeOf0
  v0 := Tryz.zeroValue0
  t2 := Tryz.underlying2
  a2 := Tryz.isAgg2
  z2 := Tryz.sizeOf2
  v2 := Tryz.zeroValue2
  t3 := Tryz.underlying3
  a3 := Tryz.isAgg3
  z3 := Tryz.sizeOf3
  v3 := Tryz.zeroValue3
  t4 := Tryz.underlying4
  a4 := Tryz.isAgg4
  z4 := Tryz.sizeOf4
  v4 := Tryz.zeroValue4
  t5 := Tryz.underlying5
  a5 := Tryz.isAgg5
  z5 := Tryz.sizeOf5
  v5 := Tryz.zeroValue5
  t9 := Tryz.underlying9
  a9 := Tryz.isAgg9
  z9 := Tryz.sizeOf9
  v9 := Tryz.zeroValue9
  t20 := Tryz.underlying20
  a20 := Tryz.isAgg20
  z20 := Tryz.sizeOf20
  v20 := Tryz.zeroValue20
  t21 := Tryz.underlying21
  a21 := Tryz.isAgg21
  z21 := Tryz.sizeOf21
  v21 := Tryz.zeroValue21
  t37 := Tryz.underlying22
  a37 := Tryz.isAgg22
  z37 := Tryz.sizeOf22
  v37 := Tryz.zeroValue22
  t46 := Tryz.underlying114
  a46 := Tryz.isAgg114
  z46 := Tryz.sizeOf114
  v46 := Tryz.zeroValue114
  t51 := Tryz.underlying152
  a51 := Tryz.isAgg152
  z51 := Tryz.sizeOf152
  v51 := Tryz.zeroValue152
  t53 := Tryz.underlying52
  a53 := Tryz.isAgg52
  z53 := Tryz.sizeOf52
  v53 := Tryz.zeroValue52
  t75 := Tryz.underlying131
  a75 := Tryz.isAgg131
  z75 := Tryz.sizeOf131
  v75 := Tryz.zeroValue131
  t76 := Tryz.underlying162
  a76 := Tryz.isAgg162
  z76 := Tryz.sizeOf162
  v76 := Tryz.zeroValue162
  t85 := Tryz.underlying240
  a85 := Tryz.isAgg240
  z85 := Tryz.sizeOf240
  v85 := Tryz.zeroValue240
  t127 := Tryz.underlying190
  a127 := Tryz.isAgg190
  z127 := Tryz.sizeOf190
  v127 := Tryz.zeroValue190
  t143 := Tryz.underlying262
  a143 := Tryz.isAgg262
  z143 := Tryz.sizeOf262
  v143 := Tryz.zeroValue262
  t145 := Tryz.underlying264
  a145 := Tryz.isAgg264
  z145 := Tryz.sizeOf264
  v145 := Tryz.zeroValue264
  t167 := Tryz.underlying239
  a167 := Tryz.isAgg239
  z167 := Tryz.sizeOf239
  v167 := Tryz.zeroValue239
  t168 := Tryz.underlying242
  a168 := Tryz.isAgg242
  z168 := Tryz.sizeOf242
  v168 := Tryz.zeroValue242
  t171 := Tryz.underlying216
  a171 := Tryz.isAgg216
  z171 := Tryz.sizeOf216
  v171 := Tryz.zeroValue216
  t173 := Tryz.underlying218
  a173 := Tryz.isAgg218
  z173 := Tryz.sizeOf218
  v173 := Tryz.zeroValue218
  t175 := Tryz.underlying248
  a175 := Tryz.isAgg248
  z175 := Tryz.sizeOf248
  v175 := Tryz.zeroValue248
  t210 := Tryz.underlying252
  a210 := Tryz.isAgg252
  z210 := Tryz.sizeOf252
  v210 := Tryz.zeroValue252
  t212 := Tryz.underlying225
  a212 := Tryz.isAgg225
  z212 := Tryz.sizeOf225
  v212 := Tryz.zeroValue225
  t213 := Tryz.underlying226
  a213 := Tryz.isAgg226
  z213 := Tryz.sizeOf226
  t232 := Tryz.underlying245
  a232 := Tryz.isAgg245
  z232 := Tryz.sizeOf245
  v232 := Tryz.zeroValue245
  t233 := Tryz.underlying246
  a233 := Tryz.isAgg246
  z233 := Tryz.sizeOf246
  v233 := Tryz.zeroValue246
  g15 := by kernel_rfl
  g16 := by kernel_rfl
  g17 := by kernel_rfl
  g18 := by kernel_rfl
  g19 := by kernel_rfl
  t80 := Tryz.underlying164
  a80 := Tryz.isAgg164
  z80 := Tryz.sizeOf164
  v80 := Tryz.zeroValue164
  i0 := by kernel_rfl
  i2 := by kernel_rfl
  i3 := by kernel_rfl
  i4 := by kernel_rfl
  i5 := by kernel_rfl
  i9 := by kernel_rfl
  i20 := by kernel_rfl
  i21 := by kernel_rfl
  i37 := by kernel_rfl
  i46 := by kernel_rfl
  i51 := by kernel_rfl
  i53 := by kernel_rfl
  i75 := by kernel_rfl
  i76 := by kernel_rfl
  i80 := by kernel_rfl
  i85 := by kernel_rfl
  i127 := by kernel_rfl
  i143 := by kernel_rfl
  i145 := by kernel_rfl
  i167 := by kernel_rfl
  i168 := by kernel_rfl
  i171 := by kernel_rfl
  i173 := by kernel_rfl
  i175 := by kernel_rfl
  i210 := by kernel_rfl
  i212 := by kernel_rfl
  i232 := by kernel_rfl
  i233 := by kernel_rfl
  m15 := by kernel_rfl
  m16 := by kernel_rfl
  m17 := by kernel_rfl
  m18 := by kernel_rfl
  m19 := by kernel_rfl
  c0 := by kernel_rfl
  c2 := by kernel_rfl
  c3 := by kernel_rfl
  c4 := by kernel_rfl
  c5 := by kernel_rfl
  c9 := by kernel_rfl
  c20 := by kernel_rfl
  c21 := by kernel_rfl
  c37 := by kernel_rfl
  c46 := by kernel_rfl
  c51 := by kernel_rfl
  c53 := by kernel_rfl
  c75 := by kernel_rfl
  c76 := by kernel_rfl
  c80 := by kernel_rfl
  c85 := by kernel_rfl
  c127 := by kernel_rfl
  c143 := by kernel_rfl
  c145 := by kernel_rfl
  c167 := by kernel_rfl
  c168 := by kernel_rfl
  c171 := by kernel_rfl
  c173 := by kernel_rfl
  c175 := by kernel_rfl
  c210 := by kernel_rfl
  c212 := by kernel_rfl
  c213 := by kernel_rfl
  c232 := by kernel_rfl
  c233 := by kernel_rfl }
def Tryz.lays99_ren : Go.Shelf.Ren := ⟨fun | 99 => 145 | 206 => 155 | n => n, fun | 9 => 9 | 4 => 4 | 3 => 3 | n => n, fun | n => n⟩
theorem Tryz.lays99 : Go.Proofs.Lays.n99 Tryz.prog Tryz.lays99_ren := {
  mixed := by kernel_rfl
  f99 := Tryz.func145.trans (congrArg some (by kernel_rfl))
  f206 := Tryz.func155.trans (congrArg some (by kernel_rfl))
  t3 := Tryz.underlying3
  a3 := Tryz.isAgg3
  z3 := Tryz.sizeOf3
  v3 := Tryz.zeroValue3
  t4 := Tryz.underlying4
  a4 := Tryz.isAgg4
  z4 := Tryz.sizeOf4
  v4 := Tryz.zeroValue4
  t9 := Tryz.underlying9
  a9 := Tryz.isAgg9
  z9 := Tryz.sizeOf9
  v9 := Tryz.zeroValue9 }
end Go.Proofs.YtnjaegeapcijpaaGreatDoor

namespace Go.Proofs.YtnjaegeapcijpaaGreatDoor
open Go.RowKit

theorem hasPrefix_is (s p : Bs) : Lib.hasPrefix s p = p.isPrefixOf s := rfl

theorem ba_drop (s : Bs) (k : Nat) : (ba s).extract k (ba s).size = ba (s.drop k) := by
  apply ByteArray.ext
  rw [ByteArray.data_extract, ba_size]
  show s.toArray.extract k s.length = (s.drop k).toArray
  apply Array.ext'
  simp [List.take_of_length_le]

set_option maxHeartbeats 1000000 in
theorem comes_any (b : Nat) (s p : Bs) (w : World) (h0 : w.cell? ⟨b, 0, none⟩ = some (.string (ba s))) :
    Calls Tryz.prog 127 #[.pointer (some ⟨b, 0, none⟩), .string (ba p)] w fun e w' => e = .returned (.bool (p.isPrefixOf s)) ∧ w' = w := by
  have hP := Any.strings_HasPrefix Tryz.lays99 (ba s) (ba p) w
  rw [ba_list, ba_list, hasPrefix_is] at hP
  go_enter Tryz.func127, Tryz.ntmps127
  go_wp2_with (go_at_call 145; refine hP.mono ?_; rintro _ _ ⟨rfl, rfl⟩)
  go_ret
  exact ⟨rfl, rfl⟩

set_option maxHeartbeats 1000000 in
theorem take_no (b : Nat) (s p : Bs) (row : Int) (w : World) (h0 : w.cell? ⟨b, 0, none⟩ = some (.string (ba s))) (h1 : w.cell? ⟨b, 1, none⟩ = some (.int .i64 row)) (hp : p.isPrefixOf s = false) :
    Calls Tryz.prog 128 #[.pointer (some ⟨b, 0, none⟩), .string (ba p)] w fun e w' => e = .panicked [{ v := .iface 125 (.agg #[.int .i64 row]), recovered := false }] ∧ w' = w := by
  have hC := comes_any b s p w h0
  rw [hp] at hC
  go_enter Tryz.func128, Tryz.ntmps128
  go_wp2_with (first | (go_at_call 127; refine hC.mono ?_; rintro _ _ ⟨rfl, rfl⟩) | (go_at_call 146; refine (leave_any b row _ h1).mono ?_; rintro _ _ ⟨rfl, rfl⟩))
  exact ⟨rfl, rfl, rfl⟩

set_option maxHeartbeats 1000000 in
theorem take_yes (b : Nat) (s p : Bs) (w : World) (h0 : w.cell? ⟨b, 0, none⟩ = some (.string (ba s))) (hz : w.frozen? ⟨b, 0, none⟩ = false) (hp : p.isPrefixOf s = true) :
    Calls Tryz.prog 128 #[.pointer (some ⟨b, 0, none⟩), .string (ba p)] w fun e w' => e = .returned (.tuple #[]) ∧ w' = w.setCell ⟨b, 0, none⟩ (.string (ba (s.drop p.length))) := by
  have hC := comes_any b s p w h0
  rw [hp] at hC
  have hlen : p.length ≤ s.length := (List.isPrefixOf_iff_prefix.1 hp).length_le
  go_enter Tryz.func128, Tryz.ntmps128
  go_wp2_with (first | (go_at_call 127; refine hC.mono ?_; rintro _ _ ⟨rfl, rfl⟩))
  refine bodyPost_end (results_none rfl _ _ _) rfl ⟨rfl, ?_⟩
  rw [ba_drop, ba_size]

set_option maxHeartbeats 1000000 in
theorem endRow_no (b : Nat) (s : Bs) (row : Int) (w : World) (h0 : w.cell? ⟨b, 0, none⟩ = some (.string (ba s))) (h1 : w.cell? ⟨b, 1, none⟩ = some (.int .i64 row)) (hp : [10].isPrefixOf s = false) :
    Calls Tryz.prog 130 #[.pointer (some ⟨b, 0, none⟩)] w fun e w' => e = .panicked [{ v := .iface 125 (.agg #[.int .i64 row]), recovered := false }] ∧ w' = w := by
  have hC := take_no b s [10] row w h0 h1 hp
  go_enter Tryz.func130, Tryz.ntmps130
  go_wp2_with (go_at_call 128; refine hC.mono ?_; rintro _ _ ⟨rfl, rfl⟩)
  exact ⟨rfl, rfl, rfl⟩

set_option maxHeartbeats 1000000 in
theorem endRow_yes (b : Nat) (s : Bs) (row : Int) (w : World) (h0 : w.cell? ⟨b, 0, none⟩ = some (.string (ba s))) (hz : w.frozen? ⟨b, 0, none⟩ = false) (h1 : w.cell? ⟨b, 1, none⟩ = some (.int .i64 row)) (hz1 : w.frozen? ⟨b, 1, none⟩ = false) (hr : 0 ≤ row) (hr1 : row ≤ 1000000) (hp : [10].isPrefixOf s = true) :
    Calls Tryz.prog 130 #[.pointer (some ⟨b, 0, none⟩)] w fun e w' => e = .returned (.tuple #[]) ∧ w' = (w.setCell ⟨b, 0, none⟩ (.string (ba (s.drop 1)))).setCell ⟨b, 1, none⟩ (.int .i64 (row + 1)) := by
  have hC := take_yes b s [10] w h0 hz hp
  have k1 : (w.setCell ⟨b, 0, none⟩ (.string (ba (s.drop 1)))).cell? ⟨b, 1, none⟩ = some (.int .i64 row) := (cell_set_ne (by omega)).trans h1
  go_enter Tryz.func130, Tryz.ntmps130
  go_wp2_with (go_at_call 128; refine hC.mono ?_; rintro _ _ ⟨rfl, rfl⟩)
  exact bodyPost_end (results_none rfl _ _ _) rfl ⟨rfl, by rw [List.drop_one]⟩
end Go.Proofs.YtnjaegeapcijpaaGreatDoor

namespace Go.Proofs.YtnjaegeapcijpaaGreatDoor
open Go.RowKit

def tenB : Bs := [48, 49, 50, 51, 52, 53, 54, 55, 56, 57]
set_option maxRecDepth 100000 in
theorem dig_ten : ∀ b : UInt8, tenB.contains b = dig b := by
  have h : ∀ k : Fin 256, tenB.contains (UInt8.ofNat k.val) = dig (UInt8.ofNat k.val) := by decide
  intro b
  have := h ⟨b.toNat, b.toNat_lt⟩
  simpa using this
theorem trim_ten (s : Bs) : Lib.trimLeftS s tenB = s.dropWhile dig := by
  unfold Lib.trimLeftS
  congr 1
  exact funext dig_ten
theorem trim_len (s : Bs) : s.length = (s.takeWhile dig).length + (s.dropWhile dig).length := by
  rw [← List.length_append, List.takeWhile_append_dropWhile]
theorem take_len (s : Bs) : s.take (s.takeWhile dig).length = s.takeWhile dig := by
  conv => lhs; arg 2; rw [← List.takeWhile_append_dropWhile (p := dig) (l := s)]
  rw [List.take_left]
theorem takeWhile_dig (s : Bs) : (s.takeWhile dig).all dig = true := by
  induction s with
  | nil => rfl
  | cons b s ih =>
    rw [List.takeWhile_cons]
    split
    · rename_i h; rw [List.all_cons, h, ih]; rfl
    · rfl
theorem ba_take (s : Bs) (k : Nat) : (ba s).extract 0 k = ba (s.take k) := by
  apply ByteArray.ext
  rw [ByteArray.data_extract]
  show s.toArray.extract 0 k = (s.take k).toArray
  apply Array.ext'
  simp
theorem info_set : (Tryz.prog.info? (Tryz.lays161_ren.t 116)).map (fun i => (i.zero, i.size)) = some (some (.agg (Array.replicate 256 (.bool false))), 256) := by kernel_rfl
theorem trim_any (s : Bs) (w : World) : Calls Tryz.prog 147 #[.string (ba s), .string ⟨#[48, 49, 50, 51, 52, 53, 54, 55, 56, 57]⟩] w fun e w' => e = .returned (.string (ba (s.dropWhile dig))) ∧ Below w.heap.size w w' := by
  have hall : ∀ b ∈ tenB, b.toNat < 128 := by decide
  have h := Any.strings_TrimLeft_laid Tryz.lays161 info_set (ba s) (ba tenB) w (by decide) (by rw [ba_list]; exact fun j b hb => hall b (List.mem_of_getElem? hb))
  rw [ba_list, ba_list, trim_ten] at h
  exact h
end Go.Proofs.YtnjaegeapcijpaaGreatDoor

namespace Go.Proofs.YtnjaegeapcijpaaGreatDoor
open Go.RowKit

def Caps (W : World) (c : Option Addr) (np : Nat) : Prop := ∀ j, j < np → ∃ b off la n lc, c = some ⟨b, off, none⟩ ∧ W.cell? ⟨b, off + j, none⟩ = some (.slice la n lc) ∧ n ≤ lc
theorem Caps.later {W W' : World} {c : Option Addr} {np : Nat} (h : Caps W c np) (hB : Below W.heap.size W W') : Caps W' c np := fun j hj => by
  obtain ⟨b, off, la, n, lc, e, hc, hl⟩ := h j hj
  exact ⟨b, off, la, n, lc, e, cellLater hB hc, hl⟩
theorem Caps.at {W : World} {b off np : Nat} (h : Caps W (some ⟨b, off, none⟩) np) {j : Nat} (hj : j < np) {la : Option Addr} {n lc : Nat} (hc : W.cell? ⟨b, off + j, none⟩ = some (.slice la n lc)) : n ≤ lc := by
  obtain ⟨b', off', la', n', lc', e, hc', hl⟩ := h j hj
  cases e
  rw [hc] at hc'
  cases hc'
  exact hl

end Go.Proofs.YtnjaegeapcijpaaGreatDoor

namespace Go.Proofs.YtnjaegeapcijpaaGreatDoor
open Go.RowKit

/-- m places that can be written, in a block from lo on and below hi -/
def Soft (lo hi : Nat) (W : World) (a : Option Addr) (m : Nat) : Prop :=
  ∀ i, i < m → ∃ b off v, a = some ⟨b, off, none⟩ ∧ lo ≤ b ∧ b < hi ∧ W.cell? ⟨b, off + i, none⟩ = some v ∧ W.frozen? ⟨b, off + i, none⟩ = false
/-- only blocks from lo on and below hi were written, and what could be written still can -/
structure Mid (lo hi : Nat) (w w' : World) : Prop where
  below : Below lo w w'
  above : ∀ x, hi ≤ x → x < w.heap.size → w'.heap[x]? = w.heap[x]?
  keeps : ∀ b o v, w.cell? ⟨b, o, none⟩ = some v → w.frozen? ⟨b, o, none⟩ = false → ∃ v', w'.cell? ⟨b, o, none⟩ = some v' ∧ w'.frozen? ⟨b, o, none⟩ = false
theorem Mid.refl (lo hi : Nat) (w : World) : Mid lo hi w w := ⟨Below.refl _ _, fun _ _ _ => rfl, fun _ _ v h f => ⟨v, h, f⟩⟩
theorem Mid.trans {lo hi : Nat} {a b c : World} (h : Mid lo hi a b) (k : Mid lo hi b c) : Mid lo hi a c :=
  ⟨h.below.trans k.below, fun x h0 h1 => (k.above x h0 (Nat.lt_of_lt_of_le h1 h.below.size)).trans (h.above x h0 h1), fun b o v hc hf => by
    obtain ⟨v', h1, h2⟩ := h.keeps b o v hc hf
    exact k.keeps b o v' h1 h2⟩
theorem Mid.mono {lo hi lo' hi' : Nat} {a b : World} (h : Mid lo hi a b) (h0 : lo' ≤ lo) (h1 : hi ≤ hi') : Mid lo' hi' a b :=
  ⟨h.below.mono h0, fun x hx => h.above x (by omega), h.keeps⟩
theorem Mid.set {lo hi : Nat} {w : World} {b o : Nat} (h0 : lo ≤ b) (h1 : b < hi) (x : Value) : Mid lo hi w (w.setCell ⟨b, o, none⟩ x) :=
  ⟨(Below.refl _ _).setCell (p := ⟨b, o, none⟩) h0 x, fun y hy _ => Below.heap_setCell w ⟨b, o, none⟩ x y (by simp; omega), fun b' o' v hc hf => by
    obtain ⟨v', hv'⟩ := cell?_setCell_some (w := w) (p := ⟨b, o, none⟩) (x := x) hc
    exact ⟨v', hv', by rw [World.frozen?_setCell]; exact hf⟩⟩
theorem Mid.ofBelow {lo hi : Nat} {w w' : World} (h : Below w.heap.size w w') (hlo : lo ≤ w.heap.size) : Mid lo hi w w' :=
  ⟨h.mono hlo, fun x _ hx => h.block x hx, fun b o v hc hf => ⟨v, cellLater h hc, (h.frozen (p := ⟨b, o, none⟩) (ltCell hc)).trans hf⟩⟩
theorem Mid.cellAbove {lo hi : Nat} {w w' : World} (h : Mid lo hi w w') {b o : Nat} {v : Value} (hb : hi ≤ b) (hc : w.cell? ⟨b, o, none⟩ = some v) : w'.cell? ⟨b, o, none⟩ = some v :=
  (World.cell?_of_block (w := w) (w' := w') (a := ⟨b, o, none⟩) (h.above b hb (ltCell hc))).trans hc
theorem Mid.cellBelow {lo hi : Nat} {w w' : World} (h : Mid lo hi w w') {b o : Nat} {v : Value} (hb : b < lo) (hc : w.cell? ⟨b, o, none⟩ = some v) : w'.cell? ⟨b, o, none⟩ = some v :=
  (h.below.cell (p := ⟨b, o, none⟩) hb).trans hc
theorem Mid.sameBelow {lo hi m n : Nat} {w w' : World} (h : Mid lo hi w w') (hn : n ≤ lo) : Same m n w w' := Same.below h.below hn
theorem Mid.sameAbove {lo hi m n : Nat} {w w' : World} (h : Mid lo hi w w') (hm : hi ≤ m) (hn : n ≤ w.heap.size) : Same m n w w' := fun k h0 h1 => h.above k (by omega) (by omega)

theorem Soft.mid {lo hi lo' hi' : Nat} {W W' : World} {a : Option Addr} {m : Nat} (h : Soft lo hi W a m) (hm : Mid lo' hi' W W') : Soft lo hi W' a m := fun i hi => by
  obtain ⟨b, off, v, e, h0, h1, hc, hf⟩ := h i hi
  obtain ⟨v', hc', hf'⟩ := hm.keeps b _ v hc hf
  exact ⟨b, off, v', e, h0, h1, hc', hf'⟩
theorem Soft.later {lo hi : Nat} {W W' : World} {a : Option Addr} {m : Nat} (h : Soft lo hi W a m) (hb : Below W.heap.size W W') : Soft lo hi W' a m :=
  h.mid (Mid.ofBelow (lo := 0) (hi := 0) hb (Nat.zero_le _))
theorem Soft.set {lo hi : Nat} {W : World} {a : Option Addr} {m : Nat} (h : Soft lo hi W a m) (p : Addr) (x : Value) : Soft lo hi (W.setCell p x) a m := fun i hi => by
  obtain ⟨b, off, v, e, h0, h1, hc, hf⟩ := h i hi
  obtain ⟨v', hv'⟩ := cell?_setCell_some (w := W) (p := p) (x := x) hc
  exact ⟨b, off, v', e, h0, h1, hv', by rw [World.frozen?_setCell]; exact hf⟩
theorem Soft.mono {lo hi lo' hi' : Nat} {W : World} {a : Option Addr} {m : Nat} (h : Soft lo hi W a m) (h0 : lo' ≤ lo) (h1 : hi ≤ hi') : Soft lo' hi' W a m := fun i hi => by
  obtain ⟨b, off, v, e, k0, k1, hc, hf⟩ := h i hi
  exact ⟨b, off, v, e, by omega, by omega, hc, hf⟩
theorem Soft.room {B m hi : Nat} {W : World} (h : Room B m W) (hB : B < hi) : Soft B hi W (some ⟨B, 0, none⟩) m := fun i hi' => by
  obtain ⟨v, hv, hf⟩ := h i hi'
  exact ⟨B, 0, v, rfl, Nat.le_refl _, hB, by rw [Nat.zero_add]; exact hv, by rw [Nat.zero_add]; exact hf⟩

/-- trains that can be written: the numbers, and the legs, which lie above -/
def SoftT (lo hi : Nat) (W : World) (a : Option Addr) (len : Nat) (nl : Nat → Nat) : Prop :=
  ∀ j, j < len → ∃ b off la lc, a = some ⟨b, off, none⟩ ∧ lo ≤ b ∧ b < hi ∧ (∀ c, c < 4 → ∃ v, W.cell? ⟨b, off + j * 5 + c, none⟩ = some v ∧ W.frozen? ⟨b, off + j * 5 + c, none⟩ = false) ∧ W.cell? ⟨b, off + j * 5 + 4, none⟩ = some (.slice la (nl j) lc) ∧ Soft (b + 1) hi W la (nl j * 3)
/-- rows that can be written: the numbers, which lie above -/
def SoftR (lo hi : Nat) (W : World) (a : Option Addr) (len : Nat) (n : Nat → Nat) : Prop :=
  ∀ j, j < len → ∃ b off la lc, a = some ⟨b, off, none⟩ ∧ lo ≤ b ∧ b < hi ∧ W.cell? ⟨b, off + j, none⟩ = some (.slice la (n j) lc) ∧ Soft (b + 1) hi W la (n j)
theorem SoftT.later {lo hi : Nat} {W W' : World} {a : Option Addr} {len : Nat} {nl : Nat → Nat} (h : SoftT lo hi W a len nl) (hb : Below W.heap.size W W') : SoftT lo hi W' a len nl := fun j hj => by
  obtain ⟨b, off, la, lc, e, h0, h1, h2, h3, h4⟩ := h j hj
  exact ⟨b, off, la, lc, e, h0, h1, fun c hc => by obtain ⟨v, hv, hf⟩ := h2 c hc; exact ⟨v, cellLater hb hv, (hb.frozen (p := ⟨b, _, none⟩) (ltCell hv)).trans hf⟩, cellLater hb h3, h4.later hb⟩
theorem SoftR.later {lo hi : Nat} {W W' : World} {a : Option Addr} {len : Nat} {n : Nat → Nat} (h : SoftR lo hi W a len n) (hb : Below W.heap.size W W') : SoftR lo hi W' a len n := fun j hj => by
  obtain ⟨b, off, la, lc, e, h0, h1, h3, h4⟩ := h j hj
  exact ⟨b, off, la, lc, e, h0, h1, cellLater hb h3, h4.later hb⟩
theorem SoftT.mid {lo hi lo' hi' : Nat} {W W' : World} {a : Option Addr} {len : Nat} {nl : Nat → Nat} (h : SoftT lo hi W a len nl) (hm : Mid lo' hi' W W') (hlo : hi' ≤ lo) : SoftT lo hi W' a len nl := fun j hj => by
  obtain ⟨b, off, la, lc, e, h0, h1, h2, h3, h4⟩ := h j hj
  exact ⟨b, off, la, lc, e, h0, h1, fun c hc => by obtain ⟨v, hv, hf⟩ := h2 c hc; exact hm.keeps _ _ _ hv hf, hm.cellAbove (by omega) h3, h4.mid hm⟩
theorem SoftR.mid {lo hi lo' hi' : Nat} {W W' : World} {a : Option Addr} {len : Nat} {n : Nat → Nat} (h : SoftR lo hi W a len n) (hm : Mid lo' hi' W W') (hlo : hi' ≤ lo) : SoftR lo hi W' a len n := fun j hj => by
  obtain ⟨b, off, la, lc, e, h0, h1, h3, h4⟩ := h j hj
  exact ⟨b, off, la, lc, e, h0, h1, hm.cellAbove (by omega) h3, h4.mid hm⟩
theorem SoftR.midBelow {lo hi lo' hi' : Nat} {W W' : World} {a : Option Addr} {len : Nat} {n : Nat → Nat} (h : SoftR lo hi W a len n) (hm : Mid lo' hi' W W') (hlo : hi ≤ lo') : SoftR lo hi W' a len n := fun j hj => by
  obtain ⟨b, off, la, lc, e, h0, h1, h3, h4⟩ := h j hj
  exact ⟨b, off, la, lc, e, h0, h1, hm.cellBelow (by omega) h3, h4.mid hm⟩
theorem SoftT.mono {lo hi lo' hi' : Nat} {W : World} {a : Option Addr} {len : Nat} {nl : Nat → Nat} (h : SoftT lo hi W a len nl) (k0 : lo' ≤ lo) (k1 : hi ≤ hi') : SoftT lo' hi' W a len nl := fun j hj => by
  obtain ⟨b, off, la, lc, e, h0, h1, h2, h3, h4⟩ := h j hj
  exact ⟨b, off, la, lc, e, by omega, by omega, h2, h3, h4.mono (Nat.le_refl _) k1⟩
theorem SoftR.mono {lo hi lo' hi' : Nat} {W : World} {a : Option Addr} {len : Nat} {n : Nat → Nat} (h : SoftR lo hi W a len n) (k0 : lo' ≤ lo) (k1 : hi ≤ hi') : SoftR lo' hi' W a len n := fun j hj => by
  obtain ⟨b, off, la, lc, e, h0, h1, h3, h4⟩ := h j hj
  exact ⟨b, off, la, lc, e, by omega, by omega, h3, h4.mono (Nat.le_refl _) k1⟩

end Go.Proofs.YtnjaegeapcijpaaGreatDoor
