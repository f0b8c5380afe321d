/-
  What the rows' listed variable gives; a world that meets the rows' condition.
  Tables and rows of texts, as a world lays them.
  The table of powers, as a row lists it.
  The words of the rows, as the program lays them: what their reading gives.
  What WriteLine's row lists, as it lies; a world that meets it.
-/
import Derived.Test.YtgdljgjamafpiaaGreatDoorCards
import Derived.Test.YtgdljgjamafpiaaGreatDoorTie
import Derived.ProofKit
import Derived.OpenShut
import Derived.LaidHandle
import Derived.LaidLaws
import Derived.Deep.DeepHandedRow
import Derived.Lib.LaidTab
import Derived.Lib.SmallJoins
import Derived.Test.YtgdljgjamafpiaaGreatDoorWordsT
import Derived.Test.YtgdljgjamafpiaaGreatDoorWordsI
import Derived.Test.YtgdljgjamafpiaaGreatDoorOpenL
import Derived.Test.YtgdljgjamafpiaaGreatDoorRows
import Derived.SliceStrings
namespace Go.Proofs.YtgdljgjamafpiaaGreatDoor
open Go.ChangeShapes Go.WideShapes Go.ChangeAt Go.RowKit

theorem Tryz.own : ownKnob Tryz.prog.godebug = none := by kernel_rfl
theorem Tryz.et : Tryz.prog.globalNamed "errors.errorType" = some 0 := by kernel_rfl
theorem Tryz.rt : (Tryz.prog.cutTypes.find? (·.1 == "internal/reflectlite.rtype")).map (·.2) = some 150 := by kernel_rfl
theorem Tryz.oneRow : ((List.range 279).filter fun t => Tryz.prog.rowNamed t [101, 114, 114, 111, 114]) = [57] := by kernel_rfl
theorem Tryz.tsize : Tryz.prog.types.size = 279 := by kernel_rfl
theorem Tryz.laidOut : laidOutB Tryz.prog = true := by kernel_rfl

/-- what the row's list gives: the variable's one cell -/
theorem handle_of_laid {W : World} (h : laidMetH Tryz.prog [("errors.errorType", Rows.laid_errors_errorType)] W) : W.cell? ⟨0, 0, none⟩ = some (.iface 150 (.agg #[.pointer (some ⟨6, 57, none⟩)])) := by
  have h' : laidMet Tryz.prog [] W ∧ handlesMet Tryz.prog [("errors.errorType", Rows.laid_errors_errorType)] W := h
  obtain ⟨name, u, ty, e1, e2, e3, e4, e5⟩ := h'.2 _ (List.mem_singleton.2 rfl)
  have en : name = [101, 114, 114, 111, 114] := (Option.some.inj e1).symm
  subst en
  obtain rfl := Option.some.inj (Tryz.rt.symm.trans e2)
  have hm : ty ∈ (List.range 279).filter fun t => Tryz.prog.rowNamed t [101, 114, 114, 111, 114] := List.mem_filter.2 ⟨List.mem_range.2 (by rw [← Tryz.tsize]; exact e3), e4⟩
  rw [Tryz.oneRow] at hm
  obtain rfl := List.mem_singleton.1 hm
  have hh : typeHandle Tryz.prog 57 = .pointer (some ⟨6, 57, none⟩) := by kernel_rfl
  rw [hh] at e5
  simpa using World.var?_cell Tryz.et e5 0

/-- a world that meets the condition -/
noncomputable def laidWorld (os : Os) : World :=
  let w0 := World.holding Tryz.prog os ⟨#[], #[], []⟩
  { w0 with heap := w0.heap.modify 0 fun
      | .cells _ t frozen => .cells #[.iface 150 (.agg #[.pointer (some ⟨6, 57, none⟩)])] t frozen
      | o => o }
theorem laidWorld_met (os : Os) (args : Array Value) : laidMetH Tryz.prog [("errors.errorType", Rows.laid_errors_errorType)] ((laidWorld os).forCall (fun _ _ => 0) ⟨#[], args, []⟩).memory :=
  laidMetH_of_parts (laidMet_nil _ _) (by kernel_rfl)

end Go.Proofs.YtgdljgjamafpiaaGreatDoor

namespace Go.Proofs.YtgdljgjamafpiaaGreatDoor
open Go.ChangeShapes Go.WideShapes Go.ChangeAt Go.RowKit

/-- the cells of a datum of plain numbers -/
def dataCells : DataW Unit → Array Value
  | .agg l => (l.flatMap fun d => match d with
    | .lit x => [x.value]
    | .agg m => m.flatMap fun e => match e with
      | .lit x => [x.value]
      | _ => []
    | _ => []).toArray
  | _ => #[]
/-- a variable's cells, laid -/
def layVar (h : Array Obj) (g : Nat) (cs : Array Value) : Array Obj := h.modify g fun
  | .cells _ t frozen => .cells cs t frozen
  | o => o
/-- so many blocks has the settled world -/
noncomputable def lowB : Nat := (World.holding Tryz.prog default ⟨#[], #[], []⟩).heap.size
theorem laidMet_tail {x : String × DataW Unit} {l : List (String × DataW Unit)} {w : World} (h : laidMet Tryz.prog (x :: l) w) : laidMet Tryz.prog l w := by
  obtain ⟨ps, ⟨g, t, cs, fuel, p, q, h1, h2, h3, h4, h5, rfl⟩, hn, hr⟩ := h
  refine ⟨q, h5, (List.nodup_append.1 hn).2.1, fun b off hb => hr b off (List.mem_append_right _ hb)⟩
theorem handle_of {W : World} (h : handlesMet Tryz.prog [("errors.errorType", Rows.laid_errors_errorType)] W) : W.cell? ⟨0, 0, none⟩ = some (.iface 150 (.agg #[.pointer (some ⟨6, 57, none⟩)])) :=
  handle_of_laid (show laidMet Tryz.prog [] W ∧ handlesMet Tryz.prog [("errors.errorType", Rows.laid_errors_errorType)] W from ⟨laidMet_nil _ _, h⟩)
end Go.Proofs.YtgdljgjamafpiaaGreatDoor

namespace Go.Proofs.YtgdljgjamafpiaaGreatDoor
open Go.ChangeShapes Go.WideShapes Go.ChangeAt Go.RowKit

theorem ten_of_laid {rest : List (String × DataW Unit)} {W : World} (h : laidMet Tryz.prog (("internal/strconv.uint64pow10", Rows.laid_internal_strconv_uint64pow10) :: rest) W) : TenIs W := by
  have e : (Rows.laid_internal_strconv_uint64pow10 : DataW Unit) = Lib.tabData .u64 Lib.pow10Tab := by rfl
  rw [e] at h
  exact Lib.tabIs_of_head (show Tryz.prog.globalNamed "internal/strconv.uint64pow10" = some 2 by kernel_rfl) (show (Tryz.prog.globals[2]?).map (·.type) = some 240 by kernel_rfl) Tryz.underlying240 Tryz.underlying47 (by kernel_rfl) (by kernel_rfl) h
end Go.Proofs.YtgdljgjamafpiaaGreatDoor

namespace Go.Proofs.YtgdljgjamafpiaaGreatDoor
open Go.RowKit Go.Lib Go.ChangeShapes Go.WideShapes

section
variable {H : Type} {enc : TypeId × Value → H} {w : World} {held : Bool}
theorem wordRow {fuel : Nat} {v : Value} {ws : List (List UInt8)} {p : List MemPlace} (hne : ws ≠ []) (h : DataW.trod enc Tryz.prog w 0 (fun _ => true) held fuel 110 [v] = some (.slice (ws.map fun x => .lit (.string x)) [], p)) :
    ∃ b off cap, v = .slice (some ⟨b, off, none⟩) ws.length cap ∧ ∀ i x, ws[i]? = some x → w.cell? ⟨b, off + i, none⟩ = some (.string (ba x)) := by
  rcases open_strings Tryz.underlying110 Tryz.underlying9 (show Tryz.prog.cellsOf 9 = 1 by kernel_rfl) h with ⟨_, hx⟩ | ⟨a, len, cap, ss, hcs, _, hl, hm, hz, hx, hcell, _⟩
  · cases hx
  · rw [if_pos rfl] at hz
    simp only [Prod.mk.injEq, DataW.slice.injEq, strs] at hx
    obtain ⟨⟨e1, _⟩, _⟩ := hx
    have hlen : ws.length = len := by
      have := congrArg List.length e1
      simp at this
      omega
    have hw : ∀ i x, ws[i]? = some x → w.cell? (a.add i) = some (.string (ba x)) := fun i x hi => by
      have hil : i < ws.length := (List.getElem?_eq_some_iff.1 hi).1
      have h1 := congrArg (·[i]?) e1
      simp only [List.getElem?_map, hi, Option.map_some, List.getElem?_take, if_pos (show i < len by omega)] at h1
      rw [hcell i (by omega)]
      cases hs : ss[i]? with
      | none => rw [hs] at h1; simp at h1
      | some s =>
        rw [hs] at h1
        simp at h1
        rw [List.getD, hs, h1]
        simp [ba_of]
    cases ws with
    | nil => exact absurd rfl hne
    | cons y r =>
      obtain ⟨b, off, rfl, _⟩ := spotOf (i := 0) (hw 0 y rfl)
      refine ⟨b, off, cap, by simpa [hlen] using hcs, fun i x hi => ?_⟩
      have := hw i x hi
      rw [Go.WideShapes.add_plain] at this
      exact this
end

theorem words_of_trod {w : World} {fuel : Nat} {cs : List Value} {p : List MemPlace} (h : DataW.trod (fun _ => ()) Tryz.prog w 0 (fun _ => true) false fuel 111 cs = some (Rows.laid_loop_example_stringline_impl_words, p)) :
    ∀ k, k < 4 → ∃ b off cap, cs[k]? = some (.slice (some ⟨b, off, none⟩) (wordsOf k).length cap) ∧ ∀ i x, (wordsOf k)[i]? = some x → w.cell? ⟨b, off + i, none⟩ = some (.string (ba x)) := by
  have hce : Tryz.prog.cellsOf 110 = 1 := by kernel_rfl
  have hct : Tryz.prog.cellsOf 111 = 4 := by kernel_rfl
  cases fuel with
  | zero => simp [DataW.trod] at h
  | succ fuel =>
    simp only [DataW.trod, Tryz.underlying111, hce, hct, Nat.mul_one] at h
    split at h
    · rename_i hl
      obtain ⟨xs, hm, hx⟩ := Option.map_eq_some_iff.1 h
      have hxs : xs.map (·.1) = [.slice ((wordsOf 0).map fun x => .lit (.string x)) [], .slice ((wordsOf 1).map fun x => .lit (.string x)) [], .slice ((wordsOf 2).map fun x => .lit (.string x)) [], .slice ((wordsOf 3).map fun x => .lit (.string x)) []] := by
        have := congrArg Prod.fst hx
        simpa [Rows.laid_loop_example_stringline_impl_words, wordsOf] using this
      intro k hk
      obtain ⟨y, hy, hf⟩ := Lib.mapM_at hm k k (by simp [hk])
      have h2 := congrArg (·[k]?) hxs
      simp only [List.getElem?_map, hy, Option.map_some] at h2
      have hv : ∃ v, (cs.drop k).take 1 = [v] ∧ cs[k]? = some v := by
        have hkc : k < cs.length := by omega
        exact ⟨cs[k], by rw [List.drop_eq_getElem_cons hkc, List.take_succ_cons, List.take_zero], List.getElem?_eq_getElem hkc⟩
      obtain ⟨v, hv1, hv2⟩ := hv
      have hd : y.1 = .slice ((wordsOf k).map fun x => .lit (.string x)) [] := by
        match k, hk with
        | 0, _ => simpa using h2
        | 1, _ => simpa using h2
        | 2, _ => simpa using h2
        | 3, _ => simpa using h2
      have hne : wordsOf k ≠ [] := by
        match k, hk with
        | 0, _ => simp [wordsOf]
        | 1, _ => simp [wordsOf]
        | 2, _ => simp [wordsOf]
        | 3, _ => simp [wordsOf]
      rw [hv1] at hf
      obtain ⟨b, off, cap, e, hc⟩ := wordRow hne (hf.trans (by rw [← hd]))
      exact ⟨b, off, cap, by rw [hv2, e], hc⟩
    · cases h
end Go.Proofs.YtgdljgjamafpiaaGreatDoor

namespace Go.Proofs.YtgdljgjamafpiaaGreatDoor
open Go.ChangeShapes Go.WideShapes Go.ChangeAt Go.RowKit

def listW : List (String × DataW Unit) := [("math/bits.deBruijn32tab", Rows.laid_math_bits_deBruijn32tab), ("math/bits.deBruijn64tab", Rows.laid_math_bits_deBruijn64tab), ("internal/strconv.uint64pow10", Rows.laid_internal_strconv_uint64pow10), ("errors.errorType", Rows.laid_errors_errorType), ("loop.example/stringline/impl.words", Rows.laid_loop_example_stringline_impl_words)]
theorem listW_parts {W : World} (h : laidMetH Tryz.prog listW W) : laidMet Tryz.prog [("math/bits.deBruijn32tab", Rows.laid_math_bits_deBruijn32tab), ("math/bits.deBruijn64tab", Rows.laid_math_bits_deBruijn64tab), ("internal/strconv.uint64pow10", Rows.laid_internal_strconv_uint64pow10), ("loop.example/stringline/impl.words", Rows.laid_loop_example_stringline_impl_words)] W ∧ handlesMet Tryz.prog [("errors.errorType", Rows.laid_errors_errorType)] W := h
theorem words_of_laid {rest : List (String × DataW Unit)} {W : World} (h : laidMet Tryz.prog (("loop.example/stringline/impl.words", Rows.laid_loop_example_stringline_impl_words) :: rest) W) : WordsIs W := by
  obtain ⟨ps, ⟨g', t', cs, fuel, p, q, hg', ht', hvar, hd, _, _⟩, _⟩ := h
  have hg : Tryz.prog.globalNamed "loop.example/stringline/impl.words" = some 1 := by kernel_rfl
  have hty : (Tryz.prog.globals[1]?).map (·.type) = some 111 := by kernel_rfl
  obtain rfl := Option.some.inj (hg.symm.trans hg')
  obtain rfl := Option.some.inj (hty.symm.trans ht')
  intro k hk
  obtain ⟨b, off, cap, h1, h2⟩ := words_of_trod hd k hk
  refine ⟨b, off, cap, ?_, h2⟩
  rw [World.var?_cell hg hvar k, ← h1]
  simp

/-- a world that meets the condition -/
noncomputable def laidWorldW (os : Os) : World :=
  let w0 := World.holding Tryz.prog os ⟨#[.cells (strCells (wordsOf 0)).toArray 9, .cells (strCells (wordsOf 1)).toArray 9, .cells (strCells (wordsOf 2)).toArray 9, .cells (strCells (wordsOf 3)).toArray 9], #[], []⟩
  { w0 with heap := layVar (layVar (layVar (layVar (layVar w0.heap 0 #[.iface 150 (.agg #[.pointer (some ⟨6, 57, none⟩)])]) 4 (dataCells Rows.laid_math_bits_deBruijn32tab)) 5 (dataCells Rows.laid_math_bits_deBruijn64tab)) 2 (dataCells Rows.laid_internal_strconv_uint64pow10)) 1 #[.slice (some ⟨lowB, 0, none⟩) 1 1, .slice (some ⟨lowB + 1, 0, none⟩) 1 1, .slice (some ⟨lowB + 2, 0, none⟩) 4 4, .slice (some ⟨lowB + 3, 0, none⟩) 3 3] }
theorem laidWorldW_met (os : Os) (args : Array Value) : laidMetH Tryz.prog listW ((laidWorldW os).forCall (fun _ _ => 0) ⟨#[], args, []⟩).memory :=
  laidMetH_of_parts (laidMet_of_run' 8 (by kernel_rfl) (by kernel_rfl)) (by kernel_rfl)
end Go.Proofs.YtgdljgjamafpiaaGreatDoor
