/-
  The statement of WriteLine's law: the row, and its card.
-/
import Derived.Test.YthnlkpifafklkaaDoorLaidW
import Derived.Test.YthnlkpifafklkaaDoorLawWrite
import Derived.Test.YthnlkpifafklkaaDoorOpenL
import Derived.ChangeVars
import Derived.Deep.DeepWitnessRowRef
namespace Go.Proofs.YthnlkpifafklkaaDoor
open Go.ChangeShapes Go.WideShapes Go.ChangeAt Go.RowKit

set_option maxRecDepth 100000 in
theorem lawWrite_contract (H : Type) (enc : TypeId × Value → H) (W : World) (base : Nat) (args : Array Value) (ds gs : List (DataW H)) (before : List MemPlace)
    (hval : ∀ (j : Nat) t v, Tryd.f3.params[j]? = some t → args[j]? = some v → Value.okWide Tryd.prog W .any base t v)
    (hW : DataW.Whole enc Tryd.prog Tryd.f3.params.toList Rows.fnExactWriteLineSpec.vars false W args.toList ds gs before) (hL : laidMetH Tryd.prog listW W) :
    Calls Tryd.prog 3 args W fun e W' => ∃ v, e = .returned v ∧ Rows.fnExactWriteLineSpec.post enc Tryd.prog Tryd.f3 false true false false W args v W' := by
  have hW' := hW
  obtain ⟨p, q, hA0, hV, rfl, hfz, hnd⟩ := hW
  have hA : DataW.TrodAll enc Tryd.prog W 0 (fun _ => true) true Tryd.f3.params.toList args.toList ds p := hA0
  rw [Tryd.params3] at hA hval
  obtain ⟨v0, vs0, d0, ds0, p0, q0, hargs, rfl, rfl, h0, r0⟩ := trodAll_cons hA
  obtain ⟨rfl, rfl, rfl⟩ := trodAll_nil r0
  obtain rfl : args = #[v0] := Array.ext' hargs
  obtain ⟨gv, tv, csv, fv, dv, pv, rfl, hgv, htv, hvv, htr, rfl⟩ := trodVars_one hV
  have hparts := listW_parts hL
  have hg := handle_of hparts.2
  have hTn := ten_of_laid (laidMet_tail (laidMet_tail hparts.1))
  have hWd := words_of_laid (laidMet_tail (laidMet_tail (laidMet_tail hparts.1)))
  have hk := h0
  obtain ⟨a, len, cap, g, gap, a', len', cap', f, rfl, hm, hm', hI, hT⟩ := readLine (hval 0 25 v0 rfl rfl) h0
  have hWk := hW'
  simp only [List.append_nil] at hW'
  refine (lawWrite_any a len cap g gap a' len' cap' f W hm hm' hI hT hg hWd hTn).mono fun e W' ⟨he, hb⟩ => ?_
  subst he
  have hlt : ∀ x ∈ p0, x.block < W.heap.size := fun x hx => hW'.lt x (by simp [hx])
  have hltv : ∀ x ∈ pv, x.block < W.heap.size := fun x hx => hW'.lt x (by simp [hx])
  have e1 : ∀ d d' : DataW H, Rows.fnExactWriteLineSpec.fn H ([d] ++ [d']) = { results := [.lit (.bool true)], args := [d], vars := [d'] } := fun _ _ => rfl
  have htv2 : (Tryd.prog.globals[0]?).map (·.type) = some 58 := by kernel_rfl
  have hgv2 : Tryd.prog.globalNamed "loop.example/stringline/impl.words" = some 0 := by kernel_rfl
  obtain rfl := Option.some.inj (hgv2.symm.trans hgv)
  obtain rfl := Option.some.inj (htv2.symm.trans htv)
  obtain ⟨fv', htr'⟩ := Below.trod Tryd.laidOut (show Tryd.prog.readableRec 58 = true by kernel_rfl) (of_decide_eq_true (by kernel_rfl)) (show DataW.Trod enc Tryd.prog W 0 (fun _ => true) true 58 (.agg csv) dv pv from ⟨fv, htr⟩) hb hltv
  have hvv' := Go.Joins.var_stays hgv2 hvv hb (Nat.le_refl _)
  refine ⟨_, rfl, _, _, _, [], p0 ++ [], MemPlace.row ⟨0, 0, none⟩ csv.size ++ pv, hWk, ?_, ?_, ?_, hb.frame _, fun h => by cases h⟩
  · rw [e1]; exact trodAll_cons_mk (shut_bool Tryd.underlying4 true) trodAll_mk0
  · rw [e1]; exact trodAll_cons_mk (Below.trod Tryd.laidOut (by kernel_rfl) (of_decide_eq_true (by kernel_rfl)) hk hb hlt) trodAll_mk0
  · rw [e1]; exact trodVars_mk1 hgv2 htv2 hvv' htr'

theorem laidWorldW_reads (os : Os) {H : Type} (enc : TypeId × Value → H) : ∃ places, DataW.whole enc Tryd.prog ((laidWorldW os).forCall (fun _ _ => 0) ⟨#[], #[.agg #[.slice none 0 0, .int .i64 0, .slice none 0 0]], []⟩).memory Tryd.f3.params.toList Rows.fnExactWriteLineSpec.vars false #[Value.agg #[.slice none 0 0, .int .i64 0, .slice none 0 0]].toList 8 = some ([.agg [.nil, .lit (.int .i64 0), .nil]], [Rows.laid_loop_example_stringline_impl_words], places) :=
  ⟨[.cell 0 0, .cell 0 1, .cell 0 2, .cell 0 3, .cell lowB 0, .cell (lowB + 1) 0, .cell (lowB + 2) 0, .cell (lowB + 2) 1, .cell (lowB + 2) 2, .cell (lowB + 2) 3, .cell (lowB + 3) 0, .cell (lowB + 3) 1, .cell (lowB + 3) 2], by kernel_rfl⟩

set_option maxRecDepth 100000 in
theorem lawWrite_lifted (os : Os) (started : os.Started) (H : Type) (enc : TypeId × Value → H) (F : Stop.Interp) :
    ReturnsInHanded {} Tryd.checked os 3 .any ((OpenSpec.ofChange Rows.fnExactWriteLineSpec).preRow enc Tryd.prog Tryd.f3 Rows.fnExactWriteLineRow.domain false Rows.fnExactWriteLineRow.laid) (((OpenSpec.ofChange Rows.fnExactWriteLineSpec).at F).post enc Tryd.prog Tryd.f3 false true false false) := by
  obtain ⟨places, hx⟩ := laidWorldW_reads os enc
  refine returnsInHanded_of_row (C := Tryd.checked) (s := OpenSpec.ofChange Rows.fnExactWriteLineSpec) Tryd.own started (by kernel_rfl) Tryd.func3
    (witness_row_atRef (enc := enc) (C := Tryd.checked) false (laidWorldW os) #[.agg #[.slice none 0 0, .int .i64 0, .slice none 0 0]] rfl (by kernel_rfl) (by kernel_rfl) (by kernel_rfl)
      (OpenSpec.preRow_of_cond 8 hx (by kernel_rfl) (fun k hk => by cases hk) (by kernel_rfl) (laidWorldW_met os _))) ?_
  intro W base args ds gs before hval hW _ _ _ hL _ _
  exact lawWrite_contract H enc W base args ds gs before hval hW hL

theorem lawWrite_said : Rows.FnExactWriteLineSaid :=
  OpenClaim.holds_of_cond 3 Tryd.f3 rfl rfl rfl rfl rfl rfl rfl ⟨rfl, rfl, rfl, rfl, rfl⟩ rfl rfl rfl rfl rfl (by kernel_rfl) Tryd.func3 (by kernel_rfl)
    (of_decide_eq_true (by kernel_rfl)) (by unfold Func.isWrapper; rw [if_neg (of_decide_eq_false (by kernel_rfl))]; exact ⟨rfl, rfl⟩)
    (fun os started H enc _ F => by rw [OpenClaim.pre_eq_preRow]; exact lawWrite_lifted os started H enc F)

theorem lawWrite_plain (f : FuncId) (fn : Func) (hf : Tryd.pinned.checked.prog.funcNamed "loop.example/stringline/laws.FnExactWriteLine" = some f) (hfn : Tryd.pinned.checked.prog.funcs[f]? = some fn) :
    true = Tryd.pinned.checked.prog.looks [] ∧ ∀ (j : Nat) t, fn.params[j]? = some t → Tryd.pinned.checked.prog.wantsStandIn t = false := by
  obtain rfl : f = 3 := Option.some.inj ((show Tryd.prog.funcNamed "loop.example/stringline/laws.FnExactWriteLine" = some 3 by kernel_rfl).symm.trans hf) |>.symm
  obtain rfl : fn = Tryd.f3 := (Option.some.inj (Tryd.func3.symm.trans hfn)).symm
  refine ⟨by kernel_rfl, fun j t ht => ?_⟩
  rw [Tryd.params3] at ht
  obtain rfl : t = 25 := by simpa using Array.mem_of_getElem? ht
  exact (show Tryd.prog.wantsStandIn 25 = false by kernel_rfl)

theorem lawWrite_card : Rows.FnExactWriteLineCardSaid :=
  Claim7.holds_tied_plain_at .later [] _ _ _ _ lawWrite_said (fun _ h => by cases h) (by kernel_rfl) (fun _ h => by cases h) fnExactWriteLine_row_tie rfl ⟨rfl, rfl⟩ (by kernel_rfl) rfl lawWrite_plain (by kernel_rfl)
end Go.Proofs.YthnlkpifafklkaaDoor
