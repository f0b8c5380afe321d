/-
  What WriteLine's row lists, as it lies; a world that meets it.
-/
import Derived.Test.YthnlkpifafklkaaDoorLaidB
import Derived.Test.YthnlkpifafklkaaDoorWordsL
namespace Go.Proofs.YthnlkpifafklkaaDoor
open Go.ChangeShapes Go.WideShapes Go.ChangeAt Go.RowKit

def listW : List (String × DataW Unit) := [("math/bits.deBruijn32tab", Rows.laid_math_bits_deBruijn32tab), ("math/bits.deBruijn64tab", Rows.laid_math_bits_deBruijn64tab), ("internal/strconv.uint64pow10", Rows.laid_internal_strconv_uint64pow10), ("errors.errorType", Rows.laid_errors_errorType), ("loop.example/stringline/impl.words", Rows.laid_loop_example_stringline_impl_words)]
theorem listW_parts {W : World} (h : laidMetH Tryd.prog listW W) : laidMet Tryd.prog [("math/bits.deBruijn32tab", Rows.laid_math_bits_deBruijn32tab), ("math/bits.deBruijn64tab", Rows.laid_math_bits_deBruijn64tab), ("internal/strconv.uint64pow10", Rows.laid_internal_strconv_uint64pow10), ("loop.example/stringline/impl.words", Rows.laid_loop_example_stringline_impl_words)] W ∧ handlesMet Tryd.prog [("errors.errorType", Rows.laid_errors_errorType)] W := h
theorem ten_of_laid {rest : List (String × DataW Unit)} {W : World} (h : laidMet Tryd.prog (("internal/strconv.uint64pow10", Rows.laid_internal_strconv_uint64pow10) :: rest) W) : TenIs W := by
  have e : (Rows.laid_internal_strconv_uint64pow10 : DataW Unit) = Lib.tabData .u64 Lib.pow10Tab := by rfl
  rw [e] at h
  exact Lib.tabIs_of_head (show Tryd.prog.globalNamed "internal/strconv.uint64pow10" = some 2 by kernel_rfl) (show (Tryd.prog.globals[2]?).map (·.type) = some 131 by kernel_rfl) Tryd.underlying131 Tryd.underlying121 (by kernel_rfl) (by kernel_rfl) h
theorem words_of_laid {rest : List (String × DataW Unit)} {W : World} (h : laidMet Tryd.prog (("loop.example/stringline/impl.words", Rows.laid_loop_example_stringline_impl_words) :: rest) W) : WordsIs W := by
  obtain ⟨ps, ⟨g', t', cs, fuel, p, q, hg', ht', hvar, hd, _, _⟩, _⟩ := h
  have hg : Tryd.prog.globalNamed "loop.example/stringline/impl.words" = some 0 := by kernel_rfl
  have hty : (Tryd.prog.globals[0]?).map (·.type) = some 58 := by kernel_rfl
  obtain rfl := Option.some.inj (hg.symm.trans hg')
  obtain rfl := Option.some.inj (hty.symm.trans ht')
  intro k hk
  obtain ⟨b, off, cap, h1, h2⟩ := words_of_trod hd k hk
  refine ⟨b, off, cap, ?_, h2⟩
  rw [World.var?_cell hg hvar k, ← h1]
  simp

/-- a world that meets the condition -/
noncomputable def laidWorldW (os : Os) : World :=
  let w0 := World.holding Tryd.prog os ⟨#[.cells (strCells (wordsOf 0)).toArray 9, .cells (strCells (wordsOf 1)).toArray 9, .cells (strCells (wordsOf 2)).toArray 9, .cells (strCells (wordsOf 3)).toArray 9], #[], []⟩
  { w0 with heap := layVar (layVar (layVar (layVar (layVar w0.heap 1 #[.iface 101 (.agg #[.pointer (some ⟨6, 70, none⟩)])]) 4 (dataCells Rows.laid_math_bits_deBruijn32tab)) 5 (dataCells Rows.laid_math_bits_deBruijn64tab)) 2 (dataCells Rows.laid_internal_strconv_uint64pow10)) 0 #[.slice (some ⟨lowB, 0, none⟩) 1 1, .slice (some ⟨lowB + 1, 0, none⟩) 1 1, .slice (some ⟨lowB + 2, 0, none⟩) 4 4, .slice (some ⟨lowB + 3, 0, none⟩) 3 3] }
theorem laidWorldW_met (os : Os) (args : Array Value) : laidMetH Tryd.prog listW ((laidWorldW os).forCall (fun _ _ => 0) ⟨#[], args, []⟩).memory :=
  laidMetH_of_parts (laidMet_of_run' 8 (by kernel_rfl) (by kernel_rfl)) (by kernel_rfl)
end Go.Proofs.YthnlkpifafklkaaDoor
