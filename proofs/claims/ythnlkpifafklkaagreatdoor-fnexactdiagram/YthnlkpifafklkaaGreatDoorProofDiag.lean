/-
  The statement of Diagram's law: the row, and its card.
-/
import Derived.Test.YthnlkpifafklkaaGreatDoorLaidA
import Derived.Test.YthnlkpifafklkaaGreatDoorLawDiag
import Derived.Test.YthnlkpifafklkaaGreatDoorOpenA
namespace Go.Proofs.YthnlkpifafklkaaGreatDoor
open Go.ChangeShapes Go.WideShapes Go.ChangeAt Go.RowKit

set_option maxRecDepth 100000 in
theorem lawDiag_contract (H : Type) (enc : TypeId × Value → H) (W : World) (base : Nat) (args : Array Value) (ds gs : List (DataW H)) (before : List MemPlace)
    (hval : ∀ (j : Nat) t v, Tryz.f5.params[j]? = some t → args[j]? = some v → Value.okWide Tryz.prog W .any base t v)
    (hW : DataW.Whole enc Tryz.prog Tryz.f5.params.toList Rows.fnExactDiagramSpec.vars false W args.toList ds gs before) (hL : laidMetH Tryz.prog listD W) :
    Calls Tryz.prog 5 args W fun e W' => ∃ v, e = .returned v ∧ Rows.fnExactDiagramSpec.post enc Tryz.prog Tryz.f5 false true false false W args v W' := by
  have hW' := hW
  obtain ⟨p, q, hA0, hV, rfl, hfz, hnd⟩ := hW
  have hA : DataW.TrodAll enc Tryz.prog W 0 (fun _ => true) true Tryz.f5.params.toList args.toList ds p := hA0
  rw [Tryz.params5] at hA hval
  obtain ⟨v0, vs0, d0, ds0, p0, q0, hargs, rfl, rfl, h0, r0⟩ := trodAll_cons hA
  obtain ⟨v1, vs1, d1, ds1, p1, q1, rfl, rfl, rfl, h1, r1⟩ := trodAll_cons r0
  obtain ⟨rfl, rfl, rfl⟩ := trodAll_nil r1
  obtain rfl : args = #[v0, v1] := Array.ext' hargs
  obtain ⟨rfl, rfl⟩ := trodVars_none hV
  have hparts := listD_parts hL
  have hg := handle_of hparts.2
  have hTn := ten_of_laid (laidMet_tail (laidMet_tail hparts.1))
  have hk := h0
  have hk1 := h1
  obtain ⟨a, len, cap, g, gap, a', len', cap', f, rfl, hm, hm', hI, hT⟩ := readLine (hval 0 25 v0 rfl rfl) h0
  obtain ⟨c, np, nc, P, rfl, hmp, hP⟩ := readPlan (hval 1 51 v1 rfl rfl) h1
  simp only [List.append_nil] at hW'
  refine (lawDiag_any a len cap g gap a' len' cap' f c np nc P W hm hm' hmp hI hT hP hg hTn).mono fun e W' ⟨he, hb⟩ => ?_
  subst he
  have hlt : ∀ x ∈ p0, x.block < W.heap.size := fun x hx => hW'.lt x (by simp [hx])
  have hlt1 : ∀ x ∈ p1, x.block < W.heap.size := fun x hx => hW'.lt x (by simp [hx])
  have e1 : ∀ d d' : DataW H, Rows.fnExactDiagramSpec.fn H ([d, d'] ++ []) = { results := [.lit (.bool true)], args := [d, d'] } := fun _ _ => rfl
  refine ⟨_, rfl, _, _, _, [], p0 ++ (p1 ++ []), [], hW', ?_, ?_, ?_, hb.frame _, fun h => by cases h⟩
  · rw [e1]; exact trodAll_cons_mk (shut_bool Tryz.underlying4 true) trodAll_mk0
  · rw [e1]; exact trodAll_cons_mk (Below.trod Tryz.laidOut (by kernel_rfl) (of_decide_eq_true (by kernel_rfl)) hk hb hlt) (trodAll_cons_mk (Below.trod Tryz.laidOut (by kernel_rfl) (of_decide_eq_true (by kernel_rfl)) hk1 hb hlt1) trodAll_mk0)
  · rw [e1]; rfl

theorem laidWorldD_reads (os : Os) {H : Type} (enc : TypeId × Value → H) : ∃ places, DataW.whole enc Tryz.prog ((laidWorldD os).forCall (fun _ _ => 0) ⟨#[], #[.agg #[.slice none 0 0, .int .i64 0, .slice none 0 0], .agg #[.slice none 0 0]], []⟩).memory Tryz.f5.params.toList Rows.fnExactDiagramSpec.vars false #[Value.agg #[.slice none 0 0, .int .i64 0, .slice none 0 0], .agg #[.slice none 0 0]].toList 8 = some ([.agg [.nil, .lit (.int .i64 0), .nil], .agg [.nil]], [], places) :=
  ⟨[], by kernel_rfl⟩

set_option maxRecDepth 100000 in
theorem lawDiag_lifted (os : Os) (started : os.Started) (H : Type) (enc : TypeId × Value → H) (F : Stop.Interp) :
    ReturnsInHanded {} Tryz.checked os 5 .any ((OpenSpec.ofChange Rows.fnExactDiagramSpec).preRow enc Tryz.prog Tryz.f5 Rows.fnExactDiagramRow.domain false Rows.fnExactDiagramRow.laid) (((OpenSpec.ofChange Rows.fnExactDiagramSpec).at F).post enc Tryz.prog Tryz.f5 false true false false) := by
  obtain ⟨places, hx⟩ := laidWorldD_reads os enc
  refine returnsInHanded_of_row (C := Tryz.checked) (s := OpenSpec.ofChange Rows.fnExactDiagramSpec) Tryz.own started (by kernel_rfl) Tryz.func5
    (witness_row_at (enc := enc) (C := Tryz.checked) false (laidWorldD os) #[.agg #[.slice none 0 0, .int .i64 0, .slice none 0 0], .agg #[.slice none 0 0]] rfl (by kernel_rfl) (by kernel_rfl) (by kernel_rfl)
      (OpenSpec.preRow_of_cond 8 hx (by kernel_rfl) (fun k hk => by cases hk) (by kernel_rfl) (laidWorldD_met os _))) ?_
  intro W base args ds gs before hval hW _ _ _ hL _ _
  exact lawDiag_contract H enc W base args ds gs before hval hW hL

theorem lawDiag_said : Rows.FnExactDiagramSaid :=
  OpenClaim.holds_of_cond 5 Tryz.f5 rfl rfl rfl rfl rfl rfl rfl ⟨rfl, rfl, rfl, rfl, rfl⟩ rfl rfl rfl rfl rfl (by kernel_rfl) Tryz.func5 (by kernel_rfl)
    (of_decide_eq_true (by kernel_rfl)) (by unfold Func.isWrapper; rw [if_neg (of_decide_eq_false (by kernel_rfl))]; exact ⟨rfl, rfl⟩)
    (fun os started H enc _ F => by rw [OpenClaim.pre_eq_preRow]; exact lawDiag_lifted os started H enc F)

theorem lawDiag_plain (f : FuncId) (fn : Func) (hf : Tryz.pinned.checked.prog.funcNamed "loop.example/stringline/laws.FnExactDiagram" = some f) (hfn : Tryz.pinned.checked.prog.funcs[f]? = some fn) :
    true = Tryz.pinned.checked.prog.looks [] ∧ ∀ (j : Nat) t, fn.params[j]? = some t → Tryz.pinned.checked.prog.wantsStandIn t = false := by
  obtain rfl : f = 5 := Option.some.inj ((show Tryz.prog.funcNamed "loop.example/stringline/laws.FnExactDiagram" = some 5 by kernel_rfl).symm.trans hf) |>.symm
  obtain rfl : fn = Tryz.f5 := (Option.some.inj (Tryz.func5.symm.trans hfn)).symm
  refine ⟨by kernel_rfl, fun j t ht => ?_⟩
  rw [Tryz.params5] at ht
  have hmem : t = 25 ∨ t = 51 := by simpa using Array.mem_of_getElem? ht
  rcases hmem with rfl | rfl
  · exact (show Tryz.prog.wantsStandIn 25 = false by kernel_rfl)
  · exact (show Tryz.prog.wantsStandIn 51 = false by kernel_rfl)

theorem lawDiag_card : Rows.FnExactDiagramCardSaid :=
  Claim7.holds_tied_plain_at .later [] _ _ _ _ lawDiag_said (fun _ h => by cases h) (by kernel_rfl) (fun _ h => by cases h) fnExactDiagram_row_tie rfl ⟨rfl, rfl⟩ (by kernel_rfl) rfl lawDiag_plain (by kernel_rfl)
end Go.Proofs.YthnlkpifafklkaaGreatDoor
