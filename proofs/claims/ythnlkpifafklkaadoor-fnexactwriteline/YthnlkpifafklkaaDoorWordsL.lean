/-
  The words of the rows, as the program lays them: what their reading gives.
-/
import Derived.Test.YthnlkpifafklkaaDoorWordsI
import Derived.Test.YthnlkpifafklkaaDoorOpenL
import Derived.Test.YthnlkpifafklkaaDoorRows
import Derived.SliceStrings
namespace Go.Proofs.YthnlkpifafklkaaDoor
open Go.RowKit Go.Lib Go.ChangeShapes Go.WideShapes

section
variable {H : Type} {enc : TypeId × Value → H} {w : World} {held : Bool}
theorem wordRow {fuel : Nat} {v : Value} {ws : List (List UInt8)} {p : List MemPlace} (hne : ws ≠ []) (h : DataW.trod enc Tryd.prog w 0 (fun _ => true) held fuel 57 [v] = some (.slice (ws.map fun x => .lit (.string x)) [], p)) :
    ∃ b off cap, v = .slice (some ⟨b, off, none⟩) ws.length cap ∧ ∀ i x, ws[i]? = some x → w.cell? ⟨b, off + i, none⟩ = some (.string (ba x)) := by
  rcases open_strings Tryd.underlying57 Tryd.underlying9 (show Tryd.prog.cellsOf 9 = 1 by kernel_rfl) h with ⟨_, hx⟩ | ⟨a, len, cap, ss, hcs, _, hl, hm, hz, hx, hcell, _⟩
  · cases hx
  · rw [if_pos rfl] at hz
    simp only [Prod.mk.injEq, DataW.slice.injEq, strs] at hx
    obtain ⟨⟨e1, _⟩, _⟩ := hx
    have hlen : ws.length = len := by
      have := congrArg List.length e1
      simp at this
      omega
    have hw : ∀ i x, ws[i]? = some x → w.cell? (a.add i) = some (.string (ba x)) := fun i x hi => by
      have hil : i < ws.length := (List.getElem?_eq_some_iff.1 hi).1
      have h1 := congrArg (·[i]?) e1
      simp only [List.getElem?_map, hi, Option.map_some, List.getElem?_take, if_pos (show i < len by omega)] at h1
      rw [hcell i (by omega)]
      cases hs : ss[i]? with
      | none => rw [hs] at h1; simp at h1
      | some s =>
        rw [hs] at h1
        simp at h1
        rw [List.getD, hs, h1]
        simp [ba_of]
    cases ws with
    | nil => exact absurd rfl hne
    | cons y r =>
      obtain ⟨b, off, rfl, _⟩ := spotOf (i := 0) (hw 0 y rfl)
      refine ⟨b, off, cap, by simpa [hlen] using hcs, fun i x hi => ?_⟩
      have := hw i x hi
      rw [Go.WideShapes.add_plain] at this
      exact this
end

theorem words_of_trod {w : World} {fuel : Nat} {cs : List Value} {p : List MemPlace} (h : DataW.trod (fun _ => ()) Tryd.prog w 0 (fun _ => true) false fuel 58 cs = some (Rows.laid_loop_example_stringline_impl_words, p)) :
    ∀ k, k < 4 → ∃ b off cap, cs[k]? = some (.slice (some ⟨b, off, none⟩) (wordsOf k).length cap) ∧ ∀ i x, (wordsOf k)[i]? = some x → w.cell? ⟨b, off + i, none⟩ = some (.string (ba x)) := by
  have hce : Tryd.prog.cellsOf 57 = 1 := by kernel_rfl
  have hct : Tryd.prog.cellsOf 58 = 4 := by kernel_rfl
  cases fuel with
  | zero => simp [DataW.trod] at h
  | succ fuel =>
    simp only [DataW.trod, Tryd.underlying58, hce, hct, Nat.mul_one] at h
    split at h
    · rename_i hl
      obtain ⟨xs, hm, hx⟩ := Option.map_eq_some_iff.1 h
      have hxs : xs.map (·.1) = [.slice ((wordsOf 0).map fun x => .lit (.string x)) [], .slice ((wordsOf 1).map fun x => .lit (.string x)) [], .slice ((wordsOf 2).map fun x => .lit (.string x)) [], .slice ((wordsOf 3).map fun x => .lit (.string x)) []] := by
        have := congrArg Prod.fst hx
        simpa [Rows.laid_loop_example_stringline_impl_words, wordsOf] using this
      intro k hk
      obtain ⟨y, hy, hf⟩ := Lib.mapM_at hm k k (by simp [hk])
      have h2 := congrArg (·[k]?) hxs
      simp only [List.getElem?_map, hy, Option.map_some] at h2
      have hv : ∃ v, (cs.drop k).take 1 = [v] ∧ cs[k]? = some v := by
        have hkc : k < cs.length := by omega
        exact ⟨cs[k], by rw [List.drop_eq_getElem_cons hkc, List.take_succ_cons, List.take_zero], List.getElem?_eq_getElem hkc⟩
      obtain ⟨v, hv1, hv2⟩ := hv
      have hd : y.1 = .slice ((wordsOf k).map fun x => .lit (.string x)) [] := by
        match k, hk with
        | 0, _ => simpa using h2
        | 1, _ => simpa using h2
        | 2, _ => simpa using h2
        | 3, _ => simpa using h2
      have hne : wordsOf k ≠ [] := by
        match k, hk with
        | 0, _ => simp [wordsOf]
        | 1, _ => simp [wordsOf]
        | 2, _ => simp [wordsOf]
        | 3, _ => simp [wordsOf]
      rw [hv1] at hf
      obtain ⟨b, off, cap, e, hc⟩ := wordRow hne (hf.trans (by rw [← hd]))
      exact ⟨b, off, cap, by rw [hv2, e], hc⟩
    · cases h
end Go.Proofs.YthnlkpifafklkaaDoor
