/-
  What the rows' listed variable gives; a world that meets the rows' condition.
  Tables and rows of texts, as a world lays them.
  The table of powers, as a row lists it.
  What ReadLine's row lists, as it lies; a world that meets it.
-/
import Derived.Test.YthnlkpifafklkaaGreatDoorCards
import Derived.Test.YthnlkpifafklkaaGreatDoorTie
import Derived.ProofKit
import Derived.OpenShut
import Derived.LaidHandle
import Derived.LaidLaws
import Derived.Deep.DeepHandedRow
import Derived.Lib.LaidTab
import Derived.Lib.SmallJoins
import Derived.Test.YthnlkpifafklkaaGreatDoorWordsT
import Derived.Test.YthnlkpifafklkaaGreatDoorGWords
import Derived.Test.YthnlkpifafklkaaGreatDoorGNum
import Derived.Stop.LaidErr
namespace Go.Proofs.YthnlkpifafklkaaGreatDoor
open Go.ChangeShapes Go.WideShapes Go.ChangeAt Go.RowKit

theorem Tryz.own : ownKnob Tryz.prog.godebug = none := by kernel_rfl
theorem Tryz.et : Tryz.prog.globalNamed "errors.errorType" = some 0 := by kernel_rfl
theorem Tryz.rt : (Tryz.prog.cutTypes.find? (·.1 == "internal/reflectlite.rtype")).map (·.2) = some 184 := by kernel_rfl
theorem Tryz.oneRow : ((List.range 287).filter fun t => Tryz.prog.rowNamed t [101, 114, 114, 111, 114]) = [129] := by kernel_rfl
theorem Tryz.tsize : Tryz.prog.types.size = 287 := by kernel_rfl
theorem Tryz.laidOut : laidOutB Tryz.prog = true := by kernel_rfl

/-- what the row's list gives: the variable's one cell -/
theorem handle_of_laid {W : World} (h : laidMetH Tryz.prog [("errors.errorType", Rows.laid_errors_errorType)] W) : W.cell? ⟨0, 0, none⟩ = some (.iface 184 (.agg #[.pointer (some ⟨10, 129, none⟩)])) := by
  have h' : laidMet Tryz.prog [] W ∧ handlesMet Tryz.prog [("errors.errorType", Rows.laid_errors_errorType)] W := h
  obtain ⟨name, u, ty, e1, e2, e3, e4, e5⟩ := h'.2 _ (List.mem_singleton.2 rfl)
  have en : name = [101, 114, 114, 111, 114] := (Option.some.inj e1).symm
  subst en
  obtain rfl := Option.some.inj (Tryz.rt.symm.trans e2)
  have hm : ty ∈ (List.range 287).filter fun t => Tryz.prog.rowNamed t [101, 114, 114, 111, 114] := List.mem_filter.2 ⟨List.mem_range.2 (by rw [← Tryz.tsize]; exact e3), e4⟩
  rw [Tryz.oneRow] at hm
  obtain rfl := List.mem_singleton.1 hm
  have hh : typeHandle Tryz.prog 129 = .pointer (some ⟨10, 129, none⟩) := by kernel_rfl
  rw [hh] at e5
  simpa using World.var?_cell Tryz.et e5 0

/-- a world that meets the condition -/
noncomputable def laidWorld (os : Os) : World :=
  let w0 := World.holding Tryz.prog os ⟨#[], #[], []⟩
  { w0 with heap := w0.heap.modify 0 fun
      | .cells _ t frozen => .cells #[.iface 184 (.agg #[.pointer (some ⟨10, 129, none⟩)])] t frozen
      | o => o }
theorem laidWorld_met (os : Os) (args : Array Value) : laidMetH Tryz.prog [("errors.errorType", Rows.laid_errors_errorType)] ((laidWorld os).forCall (fun _ _ => 0) ⟨#[], args, []⟩).memory :=
  laidMetH_of_parts (laidMet_nil _ _) (by kernel_rfl)

end Go.Proofs.YthnlkpifafklkaaGreatDoor

namespace Go.Proofs.YthnlkpifafklkaaGreatDoor
open Go.ChangeShapes Go.WideShapes Go.ChangeAt Go.RowKit

/-- the cells of a datum of plain numbers -/
def dataCells : DataW Unit → Array Value
  | .agg l => (l.flatMap fun d => match d with
    | .lit x => [x.value]
    | .agg m => m.flatMap fun e => match e with
      | .lit x => [x.value]
      | _ => []
    | _ => []).toArray
  | _ => #[]
/-- a variable's cells, laid -/
def layVar (h : Array Obj) (g : Nat) (cs : Array Value) : Array Obj := h.modify g fun
  | .cells _ t frozen => .cells cs t frozen
  | o => o
/-- so many blocks has the settled world -/
noncomputable def lowB : Nat := (World.holding Tryz.prog default ⟨#[], #[], []⟩).heap.size
theorem laidMet_tail {x : String × DataW Unit} {l : List (String × DataW Unit)} {w : World} (h : laidMet Tryz.prog (x :: l) w) : laidMet Tryz.prog l w := by
  obtain ⟨ps, ⟨g, t, cs, fuel, p, q, h1, h2, h3, h4, h5, rfl⟩, hn, hr⟩ := h
  refine ⟨q, h5, (List.nodup_append.1 hn).2.1, fun b off hb => hr b off (List.mem_append_right _ hb)⟩
theorem handle_of {W : World} (h : handlesMet Tryz.prog [("errors.errorType", Rows.laid_errors_errorType)] W) : W.cell? ⟨0, 0, none⟩ = some (.iface 184 (.agg #[.pointer (some ⟨10, 129, none⟩)])) :=
  handle_of_laid (show laidMet Tryz.prog [] W ∧ handlesMet Tryz.prog [("errors.errorType", Rows.laid_errors_errorType)] W from ⟨laidMet_nil _ _, h⟩)
end Go.Proofs.YthnlkpifafklkaaGreatDoor

namespace Go.Proofs.YthnlkpifafklkaaGreatDoor
open Go.ChangeShapes Go.WideShapes Go.ChangeAt Go.RowKit

theorem ten_of_laid {rest : List (String × DataW Unit)} {W : World} (h : laidMet Tryz.prog (("internal/strconv.uint64pow10", Rows.laid_internal_strconv_uint64pow10) :: rest) W) : TenIs W := by
  have e : (Rows.laid_internal_strconv_uint64pow10 : DataW Unit) = Lib.tabData .u64 Lib.pow10Tab := by rfl
  rw [e] at h
  exact Lib.tabIs_of_head (show Tryz.prog.globalNamed "internal/strconv.uint64pow10" = some 2 by kernel_rfl) (show (Tryz.prog.globals[2]?).map (·.type) = some 223 by kernel_rfl) Tryz.underlying223 Tryz.underlying209 (by kernel_rfl) (by kernel_rfl) h
end Go.Proofs.YthnlkpifafklkaaGreatDoor

namespace Go.Proofs.YthnlkpifafklkaaGreatDoor
open Go.ChangeShapes Go.WideShapes Go.ChangeAt Go.RowKit

def listR : List (String × DataW Unit) := [("math/bits.deBruijn32tab", Rows.laid_math_bits_deBruijn32tab), ("math/bits.deBruijn64tab", Rows.laid_math_bits_deBruijn64tab), ("internal/strconv.uint64pow10", Rows.laid_internal_strconv_uint64pow10), ("unicode/utf8.acceptRanges", Rows.laid_unicode_utf8_acceptRanges), ("errors.errorType", Rows.laid_errors_errorType), ("strconv.ErrRange", Rows.laid_strconv_ErrRange), ("strconv.ErrSyntax", Rows.laid_strconv_ErrSyntax), ("loop.example/stringline/impl.words", Rows.laid_loop_example_stringline_impl_words), ("unicode/utf8.first", Rows.laid_unicode_utf8_first)]
theorem listR_parts {W : World} (h : laidMetH Tryz.prog listR W) : laidMet Tryz.prog [("math/bits.deBruijn32tab", Rows.laid_math_bits_deBruijn32tab), ("math/bits.deBruijn64tab", Rows.laid_math_bits_deBruijn64tab), ("internal/strconv.uint64pow10", Rows.laid_internal_strconv_uint64pow10), ("unicode/utf8.acceptRanges", Rows.laid_unicode_utf8_acceptRanges), ("strconv.ErrRange", Rows.laid_strconv_ErrRange), ("strconv.ErrSyntax", Rows.laid_strconv_ErrSyntax), ("loop.example/stringline/impl.words", Rows.laid_loop_example_stringline_impl_words), ("unicode/utf8.first", Rows.laid_unicode_utf8_first)] W ∧ handlesMet Tryz.prog [("errors.errorType", Rows.laid_errors_errorType)] W := h
theorem words_of_laid {rest : List (String × DataW Unit)} {W : World} (h : laidMet Tryz.prog (("loop.example/stringline/impl.words", Rows.laid_loop_example_stringline_impl_words) :: rest) W) : WordsIs W := by
  obtain ⟨ps, ⟨g', t', cs, fuel, p, q, hg', ht', hvar, hd, _, _⟩, _⟩ := h
  have hg : Tryz.prog.globalNamed "loop.example/stringline/impl.words" = some 1 := by kernel_rfl
  have hty : (Tryz.prog.globals[1]?).map (·.type) = some 182 := by kernel_rfl
  obtain rfl := Option.some.inj (hg.symm.trans hg')
  obtain rfl := Option.some.inj (hty.symm.trans ht')
  intro k hk
  obtain ⟨b, off, cap, h1, h2⟩ := words_of_trod hd k hk
  refine ⟨b, off, cap, ?_, h2⟩
  rw [World.var?_cell hg hvar k, ← h1]
  simp


theorem Tryz.gER : Tryz.prog.globalNamed "strconv.ErrRange" = some 4 := by kernel_rfl
theorem Tryz.gERType : (Tryz.prog.globals[4]?).map (·.type) = some 129 := by kernel_rfl
theorem Tryz.gES : Tryz.prog.globalNamed "strconv.ErrSyntax" = some 3 := by kernel_rfl
theorem Tryz.gESType : (Tryz.prog.globals[3]?).map (·.type) = some 129 := by kernel_rfl
theorem Tryz.cellsES : Tryz.prog.cellsOf 259 = 1 := by kernel_rfl
theorem Tryz.cellsStr : Tryz.prog.cellsOf 9 = 1 := by kernel_rfl
theorem Tryz.star : "*" ++ "errors.errorString" = "*errors.errorString" := by decide
theorem Tryz.rowES (u : TypeId) (h : Tryz.prog.typeName? 3 u = some "*errors.errorString") : u = 257 :=
  typeName_ptr_named (nm := "errors.errorString") (by rw [Tryz.star]; kernel_rfl) (by kernel_rfl) (by decide) u (by rw [Tryz.star]; exact h)
theorem errs_of_laid {rest : List (String × DataW Unit)} {W : World} (h : laidMet Tryz.prog (("strconv.ErrRange", Rows.laid_strconv_ErrRange) :: ("strconv.ErrSyntax", Rows.laid_strconv_ErrSyntax) :: rest) W) : ErrIs W := by
  obtain ⟨a1, s1, hv1, -, -, -⟩ := laid_sentinel h Tryz.gER Tryz.gERType Tryz.underlying129 Tryz.rowES Tryz.underlying257 Tryz.underlying259 rfl rfl Tryz.underlying9 Tryz.cellsES Tryz.cellsStr
  obtain ⟨a0, s0, hv0, -, -, -⟩ := laid_sentinel (laidMet_tail h) Tryz.gES Tryz.gESType Tryz.underlying129 Tryz.rowES Tryz.underlying257 Tryz.underlying259 rfl rfl Tryz.underlying9 Tryz.cellsES Tryz.cellsStr
  exact ⟨⟨_, _, hv0⟩, ⟨_, _, hv1⟩⟩
theorem laidR_of {W : World} (h : laidMetH Tryz.prog listR W) : LaidR W := by
  have hp := (listR_parts h).1
  exact ⟨ten_of_laid (laidMet_tail (laidMet_tail hp)), errs_of_laid (laidMet_tail (laidMet_tail (laidMet_tail (laidMet_tail hp)))), words_of_laid (laidMet_tail (laidMet_tail (laidMet_tail (laidMet_tail (laidMet_tail (laidMet_tail hp))))))⟩

/-- a world that meets the condition -/
noncomputable def laidWorldR (os : Os) : World :=
  let w0 := World.holding Tryz.prog os ⟨#[.cells (strCells (wordsOf 0)).toArray 9, .cells (strCells (wordsOf 1)).toArray 9, .cells (strCells (wordsOf 2)).toArray 9, .cells (strCells (wordsOf 3)).toArray 9, .cells #[.string ⟨#[118, 97, 108, 117, 101, 32, 111, 117, 116, 32, 111, 102, 32, 114, 97, 110, 103, 101]⟩] 259, .cells #[.string ⟨#[105, 110, 118, 97, 108, 105, 100, 32, 115, 121, 110, 116, 97, 120]⟩] 259], #[], []⟩
  { w0 with heap := layVar (layVar (layVar (layVar (layVar (layVar (layVar (layVar (layVar w0.heap 0 #[.iface 184 (.agg #[.pointer (some ⟨10, 129, none⟩)])]) 5 (dataCells Rows.laid_math_bits_deBruijn32tab)) 6 (dataCells Rows.laid_math_bits_deBruijn64tab)) 2 (dataCells Rows.laid_internal_strconv_uint64pow10)) 8 (dataCells Rows.laid_unicode_utf8_acceptRanges)) 7 (dataCells Rows.laid_unicode_utf8_first)) 1 #[.slice (some ⟨lowB, 0, none⟩) 1 1, .slice (some ⟨lowB + 1, 0, none⟩) 1 1, .slice (some ⟨lowB + 2, 0, none⟩) 4 4, .slice (some ⟨lowB + 3, 0, none⟩) 3 3]) 4 #[.iface 257 (.pointer (some ⟨lowB + 4, 0, none⟩))]) 3 #[.iface 257 (.pointer (some ⟨lowB + 5, 0, none⟩))] }
theorem laidWorldR_met (os : Os) (args : Array Value) : laidMetH Tryz.prog listR ((laidWorldR os).forCall (fun _ _ => 0) ⟨#[], args, []⟩).memory :=
  laidMetH_of_parts (laidMet_of_run' 8 (by kernel_rfl) (by kernel_rfl)) (by kernel_rfl)
end Go.Proofs.YthnlkpifafklkaaGreatDoor
