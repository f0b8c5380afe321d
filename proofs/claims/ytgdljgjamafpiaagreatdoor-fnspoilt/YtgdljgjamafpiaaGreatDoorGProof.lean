/-
  The law of first faults: walked.
  From the reading of an argument to its cells: bytes.
  The statement of the law of first faults: the row, and its card.
-/
import Derived.Test.YtgdljgjamafpiaaGreatDoorCurM
import Derived.Test.YtgdljgjamafpiaaGreatDoorGWrong
import Derived.Test.YtgdljgjamafpiaaGreatDoorWriteI
import Derived.Test.YtgdljgjamafpiaaGreatDoorSpecS
import Derived.Deep.RegionHeld3
import Derived.Test.YtgdljgjamafpiaaGreatDoorOpenL
import Derived.Test.YtgdljgjamafpiaaGreatDoorGCur
import Derived.Test.YtgdljgjamafpiaaGreatDoorGLaid
import Derived.ChangeVars
import Derived.Deep.DeepWitnessRowRef
namespace Go.Proofs.YtgdljgjamafpiaaGreatDoor
open Go.RowKit

theorem field_best (W : World) : (Instr.field 36 (.agg #[.bool false, .int .i64 0, .slice none 0 0]) 0).run Tryz.prog W = .ok (.bool false) W := by kernel_rfl
theorem field_placed (W : World) : (Instr.field 39 (.agg #[.int .i64 1, .int .i64 0, .slice none 0 0]) 0).run Tryz.prog W = .ok (.int .i64 1) W := by kernel_rfl
set_option maxRecDepth 20000 in
set_option maxHeartbeats 8000000 in
theorem lawSpoilt_any (a : Option Addr) (len cap : Nat) (w : World) (hI : IsB w a len) (hg : w.cell? ⟨0, 0, none⟩ = some (.iface 150 (.agg #[.pointer (some ⟨6, 57, none⟩)]))) (hWd : WordsIs w) (hTn : TenIs w) :
    Calls Tryz.prog 3 #[.slice a len cap] w fun e w' => e = .returned (.bool true) ∧ Below w.heap.size w w' := by
  by_cases hlen : len ≤ 1048576
  · have hlen' : ¬ ((1048576 : Int) < (len : Int)) := by omega
    have hD := drawLineOk_any w a len cap hlen hI
    go_enter Tryz.func3, Tryz.ntmps3
    go_wp2_with (go_at_call 4; fail)
    refine hD.mono ?_
    rintro _ w1 ⟨tr, gap, L, at_, ct, aT, cT, rfl, hown, h13, h6, h10, hB1⟩
    clear hD
    obtain ⟨x1, x2, ex, hI1⟩ := ownInts hown.ints
    cases ex
    obtain ⟨x3, x4, ex, hT1⟩ := hown.trs.trains (fun x hx => by have := h10 x hx; unfold maxLen; omega)
    cases ex
    have hml : ∀ j, j < L.length → (fT (L.map Prod.fst) j).nl ≤ 1048576 := fun j hj => by
      have hf : fT (L.map Prod.fst) j = trD L[j].1 := by unfold fT; rw [List.getD_eq_getElem?_getD, List.getElem?_map, List.getElem?_eq_getElem hj]; rfl
      rw [hf]
      have := h10 _ (List.getElem_mem hj)
      show (L[j].1.legs.length) ≤ 1048576
      omega
    replace hI1 : IsInts 0 w1.heap.size w1 at_ tr.length (gI tr) := hI1.mono (Nat.zero_le _) (Nat.le_refl _)
    replace hT1 : IsTrains 0 w1.heap.size w1 aT L.length (fT (L.map Prod.fst)) := hT1.mono (Nat.zero_le _) (Nat.le_refl _)
    have hg1 := cellLater hB1 hg
    have hWd1 := hWd.later hB1
    have hTn1 := hTn.later hB1
    have h39 : tr.length ≤ 1048576 := by omega
    have h50 : L.length ≤ 1048576 := by omega
    generalize gI tr = g at hI1
    generalize fT (L.map Prod.fst) = f at hT1 hml
    generalize tr.length = nt at hI1 h39 ⊢
    generalize L.length = nl at hT1 hml h50 ⊢
    clear hown h13 h6 h10 hg hWd hTn hI
    obtain ⟨F, hFd⟩ : ∃ F, F = faultOf nt g gap nl f := ⟨_, rfl⟩
    obtain ⟨s, hs⟩ : ∃ s, s = ba (writeOf nt g gap nl f) := ⟨_, rfl⟩
    have hOk : ∀ V : World, Below w1.heap.size w1 V → Calls Tryz.prog 5 #[.agg #[.slice at_ nt ct, .int .i64 gap, .slice aT nl cT]] V fun e w' => e = .returned (.agg #[.int .i64 F.1, .int .i64 F.2]) ∧ Below V.heap.size V w' := fun V hV => by
      rw [hFd]; exact implOk_any at_ nt ct g gap aT nl cT f V h39 h50 hml (hI1.grow hV) (hT1.grow hV) (cellLater hV hg1)
    have hSok : ∀ V : World, Below w1.heap.size w1 V → Calls Tryz.prog 6 #[.agg #[.slice at_ nt ct, .int .i64 gap, .slice aT nl cT]] V fun e w' => e = .returned (.agg #[.int .i64 F.1, .int .i64 F.2]) ∧ Below V.heap.size V w' := fun V hV => by
      rw [hFd]; exact specOk_any at_ nt ct g gap aT nl cT f V h39 h50 hml (hI1.grow hV) (hT1.grow hV)
    have hWr : ∀ V : World, Below w1.heap.size w1 V → Calls Tryz.prog 7 #[.agg #[.slice at_ nt ct, .int .i64 gap, .slice aT nl cT]] V fun e w' => e = .returned (.string s) ∧ Below V.heap.size V w' := fun V hV => by
      rw [hs]; exact implWrite_any at_ nt ct g gap aT nl cT f V h39 h50 hml (hI1.grow hV) (hT1.grow hV) (cellLater hV hg1) (hWd1.later hV) (hTn1.later hV)
    have hSwr : ∀ V : World, Below w1.heap.size w1 V → Calls Tryz.prog 8 #[.agg #[.slice at_ nt ct, .int .i64 gap, .slice aT nl cT]] V fun e w' => e = .returned (.string s) ∧ Below V.heap.size V w' := fun V hV => by
      rw [hs]; exact specWrite_any at_ nt ct g gap aT nl cT f V h39 h50 hml (hI1.grow hV) (hT1.grow hV)
    have hFd' : Hid (F = faultOf nt g gap nl f) := hFd
    have hs' : Hid (s = ba (writeOf nt g gap nl f)) := hs
    clear hFd hs
    have hA := b1 w1 (.cells #[.slice at_ nt ct, .int .i64 gap, .slice aT nl cT] 26)
    have hOkA := hOk _ hA
    obtain ⟨n0, n1, n2⟩ := new3 w1 (.slice at_ nt ct) (.int .i64 gap) (.slice aT nl cT) 26
    go_wp2_with (go_at_call 5; fail)
    refine hOkA.mono ?_
    rintro _ w2 ⟨rfl, hB2⟩
    clear hOk hOkA
    have hA2 := b1 w2 (.cells #[.int .i64 F.1, .int .i64 F.2] 29)
    have hC2 := Below.join (Below.join hA (Nat.le_refl _) hB2) (Nat.le_refl _) hA2
    have q0 := cellLater hA2 (cellLater hB2 n0)
    have q1 := cellLater hA2 (cellLater hB2 n1)
    have q2 := cellLater hA2 (cellLater hB2 n2)
    have f0 : (w2.alloc (.cells #[.int .i64 F.1, .int .i64 F.2] 29)).cell? ⟨w2.heap.size, 0, none⟩ = some (.int .i64 F.1) := by simp
    have f1 : (w2.alloc (.cells #[.int .i64 F.1, .int .i64 F.2] 29)).cell? ⟨w2.heap.size, 1, none⟩ = some (.int .i64 F.2) := by simp
    clear n0 n1 n2
    obtain ⟨wf, hwf⟩ : ∃ wf, wf = w2.alloc (.cells #[.int .i64 F.1, .int .i64 F.2] 29) := ⟨_, rfl⟩
    rw [← hwf] at q0 q1 q2 f0 f1 hC2
    go_wp2
    rw [← hwf]
    clear hwf hA2 hB2 hA
    have hDr : Below wf.heap.size wf wf.drew := (Below.refl _ _).drew
    have hC3 := Below.join hC2 (Nat.le_refl _) hDr
    have hSd := hSok _ hC3
    go_region_held3 (fun w' => w'.cell? ⟨w1.heap.size, 0, none⟩ = some (.slice at_ nt ct) ∧ w'.cell? ⟨w1.heap.size, 1, none⟩ = some (.int .i64 gap) ∧ w'.cell? ⟨w1.heap.size, 2, none⟩ = some (.slice aT nl cT) ∧ w'.cell? ⟨w2.heap.size, 0, none⟩ = some (.int .i64 F.1) ∧ w'.cell? ⟨w2.heap.size, 1, none⟩ = some (.int .i64 F.2)) (first | go_keep | (go_split_ands; refine ⟨?_, ?_, ?_, ?_, ?_⟩ <;> exact cellLater hB4 (by assumption))) ((go_at_call 6; refine hSd.mono ?_; rintro _ w4 ⟨rfl, hB4⟩))
    have hC4 := Below.join hC3 (Nat.le_refl _) hB4
    replace q0 := cellLater hB4 (cellLater hDr q0)
    replace q1 := cellLater hB4 (cellLater hDr q1)
    replace q2 := cellLater hB4 (cellLater hDr q2)
    replace f0 := cellLater hB4 (cellLater hDr f0)
    clear hSok hSd hB4 hC3 hDr hC2 f1
    have hBw := Below.join hB1 (Nat.le_refl _) hC4
    by_cases hz : F.1 = 0
    · have hDr : Below w4.heap.size w4 w4.drew := (Below.refl _ _).drew
      have hC5 := Below.join hC4 (Nat.le_refl _) hDr
      have hW5 := hWr _ hC5
      go_wp2
      go_region_held3 (fun w' => w'.cell? ⟨w1.heap.size, 0, none⟩ = some (.slice at_ nt ct) ∧ w'.cell? ⟨w1.heap.size, 1, none⟩ = some (.int .i64 gap) ∧ w'.cell? ⟨w1.heap.size, 2, none⟩ = some (.slice aT nl cT)) (first | go_keep | (go_split_ands; refine ⟨?_, ?_, ?_⟩ <;> exact cellLater hB5 (by assumption)) | (go_split_ands; refine ⟨?_, ?_, ?_⟩ <;> exact cellLater hB6 (by assumption))) ((first | (go_at_call 7; refine hW5.mono ?_; rintro _ w5 ⟨rfl, hB5⟩; have hC6 := Below.join hC5 (Nat.le_refl _) hB5; have hW6 := hSwr _ hC6) | (go_at_call 8; refine hW6.mono ?_; rintro _ w6 ⟨rfl, hB6⟩)))
      go_wp2
      go_ret
      exact ⟨rfl, Below.join hB1 (Nat.le_refl _) (Below.join hC6 (Nat.le_refl _) hB6)⟩
    · have hzb : (F.1 == 0) = false := by simpa using hz
      have hF : Hid ((faultOf nt g gap nl f).1 ≠ 0) := by unfold Hid; rw [← hFd'.out]; exact hz
      have hse : s = ⟨#[]⟩ := by rw [hs'.out]; unfold writeOf; rw [if_neg hF.out]; rfl
      subst hse
      have hP1 := wrongSolve at_ nt ct g gap aT nl cT f w4 h39 h50 hml (hI1.grow hC4) (hT1.grow hC4) (cellLater hC4 hg1) hF
      go_wp2_with (first
        | (go_at_call 9; with_reducible refine hP1.mono ?_; rintro _ w5 ⟨rfl, hB5⟩; have hfb := field_best w5; have hC5 := Below.join hC4 (Nat.le_refl _) hB5; have q05 := cellLater hB5 q0; have q15 := cellLater hB5 q1; have q25 := cellLater hB5 q2; have hP2 := hWr _ hC5)
        | (go_at_call 7; with_reducible refine hP2.mono ?_; rintro _ w6 ⟨rfl, hB6⟩; have hC6 := Below.join hC5 (Nat.le_refl _) hB6; have q06 := cellLater hB6 q05; have q16 := cellLater hB6 q15; have q26 := cellLater hB6 q25; have hP3 := wrongPlace at_ nt ct g gap aT nl cT f w6 h39 h50 hml (hI1.grow hC6) (hT1.grow hC6) (cellLater hC6 hg1) hF)
        | (go_at_call 10; with_reducible refine hP3.mono ?_; rintro _ w7 ⟨rfl, hB7⟩; have hfp := field_placed w7; have hC7 := Below.join hC6 (Nat.le_refl _) hB7; have q07 := cellLater hB7 q06; have q17 := cellLater hB7 q16; have q27 := cellLater hB7 q26; have hP4 := wrongLeast at_ nt ct g gap aT nl cT f w7 h39 h50 hml (hI1.grow hC7) (hT1.grow hC7) (cellLater hC7 hg1) hF)
        | (go_at_call 11; with_reducible refine hP4.mono ?_; rintro _ w8 ⟨rfl, hB8⟩; have hC8 := Below.join hC7 (Nat.le_refl _) hB8; have q08 := cellLater hB8 q07; have q18 := cellLater hB8 q17; have q28 := cellLater hB8 q27; have hP5 := wrongCheck at_ nt ct g gap aT nl cT f w8 h39 h50 hml (hI1.grow hC8) (hT1.grow hC8) (cellLater hC8 hg1) hF none 0 0)
        | (go_at_call 12; with_reducible refine hP5.mono ?_; rintro _ w9 ⟨rfl, hB9⟩))
      go_ret
      exact ⟨rfl, Below.join hB1 (Nat.le_refl _) (Below.join hC8 (Nat.le_refl _) hB9)⟩
  · have hlen' : (1048576 : Int) < (len : Int) := by omega
    go_enter Tryz.func3, Tryz.ntmps3
    go_wp2
    go_ret
    exact ⟨rfl, Below.refl _ _⟩
end Go.Proofs.YtgdljgjamafpiaaGreatDoor

namespace Go.Proofs.YtgdljgjamafpiaaGreatDoor
open Go.RowKit Go.Deep Go.ChangeShapes Go.WideShapes Go.Joins

theorem Tryz.cellsByte : Tryz.prog.cellsOf 5 = 1 := by kernel_rfl
theorem u8_wf {n : Int} (h : (Lit.int .u8 n).wf = true) : 0 ≤ n ∧ n ≤ 255 := by
  simp only [Lit.wf, Bool.and_eq_true, decide_eq_true_eq] at h
  have h0 : IntKind.u8.min = 0 := by decide
  have h1 : IntKind.u8.max = 255 := by decide
  omega
section
variable {H : Type} {enc : TypeId × Value → H} {w : World} {base : Nat} {spare : Nat → Bool} {held : Bool}
theorem readBytes {fuel : Nat} {v : Value} {x : DataW H × List MemPlace} (h : DataW.trod enc Tryz.prog w base spare held fuel 22 [v] = some x) :
    ∃ (a : Option Addr) (len cap : Nat), v = .slice a len cap ∧ IsB w a len := by
  rcases open_slice1 Tryz.underlying22 Tryz.cellsByte h with ⟨hcs, _⟩ | ⟨a, len, cap, m, n, V, D, Pl, hcs, _, hl, hm, hmm, _, hx⟩
  · exact ⟨none, 0, 0, by simpa using hcs, fun j hj => absurd hj (Nat.not_lt_zero _)⟩
  · have hle : len ≤ m := by rw [hmm]; split <;> omega
    obtain ⟨f, hf⟩ := choose_lt (α := Int) (n := len) (p := fun i y => w.cell? (a.add i) = some (.int .u8 y) ∧ 0 ≤ y ∧ y ≤ 255) (fun i hi => by
      obtain ⟨h1, h2⟩ := hx i (by omega)
      obtain ⟨y, e, _, hwf⟩ := DataW.trod_int Tryz.underlying5 h2
      simp at e
      exact ⟨y, by rw [h1, e], u8_wf hwf⟩)
    refine ⟨some a, len, cap, by simpa using hcs, fun j hj => ?_⟩
    obtain ⟨b, off, rfl, e⟩ := spotOf (i := j) (hf 0 (by omega)).1
    have := hf j hj
    rw [e] at this
    exact ⟨b, off, f j, rfl, this.1, this.2⟩
end
end Go.Proofs.YtgdljgjamafpiaaGreatDoor

namespace Go.Proofs.YtgdljgjamafpiaaGreatDoor
open Go.ChangeShapes Go.WideShapes Go.ChangeAt Go.RowKit

set_option maxRecDepth 100000 in
theorem lawSpoilt_contract (H : Type) (enc : TypeId × Value → H) (W : World) (base : Nat) (args : Array Value) (ds gs : List (DataW H)) (before : List MemPlace)
    (hval : ∀ (j : Nat) t v, Tryz.f3.params[j]? = some t → args[j]? = some v → Value.okWide Tryz.prog W .any base t v)
    (hW : DataW.Whole enc Tryz.prog Tryz.f3.params.toList Rows.fnSpoiltSpec.vars false W args.toList ds gs before) (hL : laidMetH Tryz.prog listW W) :
    Calls Tryz.prog 3 args W fun e W' => ∃ v, e = .returned v ∧ Rows.fnSpoiltSpec.post enc Tryz.prog Tryz.f3 false true false false W args v W' := by
  have hW' := hW
  obtain ⟨p, q, hA0, hV, rfl, hfz, hnd⟩ := hW
  have hA : DataW.TrodAll enc Tryz.prog W 0 (fun _ => true) true Tryz.f3.params.toList args.toList ds p := hA0
  rw [Tryz.params3] at hA hval
  obtain ⟨v0, vs0, d0, ds0, p0, q0, hargs, rfl, rfl, h0, r0⟩ := trodAll_cons hA
  obtain ⟨rfl, rfl, rfl⟩ := trodAll_nil r0
  obtain rfl : args = #[v0] := Array.ext' hargs
  obtain ⟨gv, tv, csv, fv, dv, pv, rfl, hgv, htv, hvv, htr, rfl⟩ := trodVars_one hV
  have hparts := listW_parts hL
  have hg := handle_of hparts.2
  have hTn := ten_of_laid (laidMet_tail (laidMet_tail hparts.1))
  have hWd := words_of_laid (laidMet_tail (laidMet_tail (laidMet_tail hparts.1)))
  have hk := h0
  obtain ⟨a, len, cap, rfl⟩ := okWide_slice Tryz.underlying22 (hval 0 22 v0 rfl rfl)
  obtain ⟨fl, hfl⟩ := h0
  obtain ⟨a2, l2, c2, e, hI⟩ := readBytes (v := .slice a len cap) (by simpa [Value.cells] using hfl)
  cases e
  have hWk := hW'
  simp only [List.append_nil] at hW'
  refine (lawSpoilt_any a len cap W hI hg hWd hTn).mono fun e W' ⟨he, hb⟩ => ?_
  subst he
  have hlt : ∀ x ∈ p0, x.block < W.heap.size := fun x hx => hW'.lt x (by simp [hx])
  have hltv : ∀ x ∈ pv, x.block < W.heap.size := fun x hx => hW'.lt x (by simp [hx])
  have e1 : ∀ d d' : DataW H, Rows.fnSpoiltSpec.fn H ([d] ++ [d']) = { results := [.lit (.bool true)], args := [d], vars := [d'] } := fun _ _ => rfl
  have htv2 : (Tryz.prog.globals[1]?).map (·.type) = some 111 := by kernel_rfl
  have hgv2 : Tryz.prog.globalNamed "loop.example/stringline/impl.words" = some 1 := by kernel_rfl
  obtain rfl := Option.some.inj (hgv2.symm.trans hgv)
  obtain rfl := Option.some.inj (htv2.symm.trans htv)
  obtain ⟨fv', htr'⟩ := Below.trod Tryz.laidOut (show Tryz.prog.readableRec 111 = true by kernel_rfl) (of_decide_eq_true (by kernel_rfl)) (show DataW.Trod enc Tryz.prog W 0 (fun _ => true) true 111 (.agg csv) dv pv from ⟨fv, htr⟩) hb hltv
  have hvv' := Go.Joins.var_stays hgv2 hvv hb (Nat.le_refl _)
  refine ⟨_, rfl, _, _, _, [], p0 ++ [], MemPlace.row ⟨1, 0, none⟩ csv.size ++ pv, hWk, ?_, ?_, ?_, hb.frame _, fun h => by cases h⟩
  · rw [e1]; exact trodAll_cons_mk (shut_bool Tryz.underlying4 true) trodAll_mk0
  · rw [e1]; exact trodAll_cons_mk (Below.trod Tryz.laidOut (by kernel_rfl) (of_decide_eq_true (by kernel_rfl)) hk hb hlt) trodAll_mk0
  · rw [e1]; exact trodVars_mk1 hgv2 htv2 hvv' htr'

theorem laidWorldW_reads (os : Os) {H : Type} (enc : TypeId × Value → H) : ∃ places, DataW.whole enc Tryz.prog ((laidWorldW os).forCall (fun _ _ => 0) ⟨#[], #[.slice none 0 0], []⟩).memory Tryz.f3.params.toList Rows.fnSpoiltSpec.vars false #[Value.slice none 0 0].toList 8 = some ([.nil], [Rows.laid_loop_example_stringline_impl_words], places) :=
  ⟨[.cell 1 0, .cell 1 1, .cell 1 2, .cell 1 3, .cell lowB 0, .cell (lowB + 1) 0, .cell (lowB + 2) 0, .cell (lowB + 2) 1, .cell (lowB + 2) 2, .cell (lowB + 2) 3, .cell (lowB + 3) 0, .cell (lowB + 3) 1, .cell (lowB + 3) 2], by kernel_rfl⟩

set_option maxRecDepth 100000 in
theorem lawSpoilt_lifted (os : Os) (started : os.Started) (H : Type) (enc : TypeId × Value → H) (F : Stop.Interp) :
    ReturnsInHanded {} Tryz.checked os 3 .any ((OpenSpec.ofChange Rows.fnSpoiltSpec).preRow enc Tryz.prog Tryz.f3 Rows.fnSpoiltRow.domain false Rows.fnSpoiltRow.laid) (((OpenSpec.ofChange Rows.fnSpoiltSpec).at F).post enc Tryz.prog Tryz.f3 false true false false) := by
  obtain ⟨places, hx⟩ := laidWorldW_reads os enc
  refine returnsInHanded_of_row (C := Tryz.checked) (s := OpenSpec.ofChange Rows.fnSpoiltSpec) Tryz.own started (by kernel_rfl) Tryz.func3
    (witness_row_atRef (enc := enc) (C := Tryz.checked) false (laidWorldW os) #[.slice none 0 0] rfl (by kernel_rfl) (by kernel_rfl) (by kernel_rfl)
      (OpenSpec.preRow_of_cond 8 hx (by kernel_rfl) (fun k hk => by cases hk) (by kernel_rfl) (laidWorldW_met os _))) ?_
  intro W base args ds gs before hval hW _ _ _ hL _ _
  exact lawSpoilt_contract H enc W base args ds gs before hval hW hL

theorem lawSpoilt_said : Rows.FnSpoiltSaid :=
  OpenClaim.holds_of_cond 3 Tryz.f3 rfl rfl rfl rfl rfl rfl rfl ⟨rfl, rfl, rfl, rfl, rfl⟩ rfl rfl rfl rfl rfl (by kernel_rfl) Tryz.func3 (by kernel_rfl)
    (of_decide_eq_true (by kernel_rfl)) (by unfold Func.isWrapper; rw [if_neg (of_decide_eq_false (by kernel_rfl))]; exact ⟨rfl, rfl⟩)
    (fun os started H enc _ F => by rw [OpenClaim.pre_eq_preRow]; exact lawSpoilt_lifted os started H enc F)

theorem lawSpoilt_plain (f : FuncId) (fn : Func) (hf : Tryz.pinned.checked.prog.funcNamed "loop.example/stringline/laws.FnSpoilt" = some f) (hfn : Tryz.pinned.checked.prog.funcs[f]? = some fn) :
    true = Tryz.pinned.checked.prog.looks [] ∧ ∀ (j : Nat) t, fn.params[j]? = some t → Tryz.pinned.checked.prog.wantsStandIn t = false := by
  obtain rfl : f = 3 := Option.some.inj ((show Tryz.prog.funcNamed "loop.example/stringline/laws.FnSpoilt" = some 3 by kernel_rfl).symm.trans hf) |>.symm
  obtain rfl : fn = Tryz.f3 := (Option.some.inj (Tryz.func3.symm.trans hfn)).symm
  refine ⟨by kernel_rfl, fun j t ht => ?_⟩
  rw [Tryz.params3] at ht
  obtain rfl : t = 22 := by simpa using Array.mem_of_getElem? ht
  exact (show Tryz.prog.wantsStandIn 22 = false by kernel_rfl)

theorem lawSpoilt_card : Rows.FnSpoiltCardSaid :=
  ⟨Claim7.tied_new_at .later [.data, .data, .data, .handle, .data] true (Claim7.new_of_sixth lawSpoilt_said _ true rfl ⟨rfl, rfl⟩ (by kernel_rfl) rfl lawSpoilt_plain) (by kernel_rfl), (fun _ h => by cases h), fnSpoilt_row_tie, (fun h => by cases h), by kernel_rfl⟩
end Go.Proofs.YtgdljgjamafpiaaGreatDoor
