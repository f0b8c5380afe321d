/-
  The program's board: from when on a station has a track more.
  The program's board: a train comes to a station, a train leaves one.
  The stations of a board: who is there for ever, and until when the others are.
  The program's board, new.
  The program's board as it lies: its rows, its tracks, its stations; and what each step makes of it.
  The program's board: a station is entered, is left, is looked at; what becomes of the whole board.
  The program's board: a train's next leg is begun.
-/
import Derived.Test.YtelickcfodcmaaaGreatDoorGE
import Derived.Test.YtelickcfodcmaaaGreatDoorSpecU
import Derived.Test.YtelickcfodcmaaaGreatDoorGA
import Derived.Deep.RegionLaw
import Derived.Deep.DeepCutAuto
import Derived.Maps.AppendAt
namespace Go.Proofs.YtelickcfodcmaaaGreatDoor
open Go.RowKit

theorem Tryz.zeroRoom (w : World) : (zeroValue 171).run Tryz.prog w = .ok (.agg #[.int .i64 0, .slice none 0 0]) w := by kernel_rfl

set_option maxRecDepth 20000 in
set_option maxHeartbeats 4000000 in
theorem sizeI_any (B O n cap : Nat) (va : Option Addr) (w : World) (h0 : w.cell? ⟨B, O, none⟩ = some (.slice va n cap)) :
    Calls Tryz.prog 107 #[.pointer (some ⟨B, O, none⟩)] w fun e w' => e = .returned (.int .i64 n) ∧ w' = w := by
  go_enter Tryz.func107, Tryz.ntmps107
  go_wp2
  go_ret
  exact ⟨rfl, rfl⟩

def lenAt (W : World) (p : Addr) : Nat := match W.cell? p with | some (.slice _ n _) => n | _ => 0
/-- only the room's box and the row of its ends have been written -/
structure RFr (w w' : World) (row : Option Nat) (bS : Nat) : Prop where
  os : w'.os = w.os
  tape : w'.tape = w.tape
  output : w'.output = w.output
  size : w.heap.size ≤ w'.heap.size
  oth : ∀ k, k < w.heap.size → k ≠ bS → some k ≠ row → w'.heap[k]? = w.heap[k]?
/-- as the station's look goes on: m of the ends are left -/
structure RIn (b0 : Nat) (w wr : World) (E : Int) (va : Option Addr) (vc ne m : Nat) (s : Nat → Int) : Prop where
  c0 : wr.cell? ⟨w.heap.size, 0, none⟩ = some (.int .i64 E)
  c1 : wr.cell? ⟨w.heap.size, 1, none⟩ = some (.slice va m vc)
  z1 : wr.frozen? ⟨w.heap.size, 1, none⟩ = false
  own : wr.ownsRow b0 3 1 (.slice va m vc) m (numCells s m)
  os : wr.os = w.os
  tape : wr.tape = w.tape
  output : wr.output = w.output
  size : wr.heap.size = w.heap.size + 1
  oth : ∀ k, k < w.heap.size → some k ≠ (Value.slice va ne vc).ownBlock → wr.heap[k]? = w.heap[k]?
theorem RIn.drewN {b0 : Nat} {w wr : World} {E : Int} {va : Option Addr} {vc ne m : Nat} {s : Nat → Int} (h : RIn b0 w wr E va vc ne m s) (q : Nat) : RIn b0 w (wr.drewN q) E va vc ne m s := ⟨h.c0, h.c1, h.z1, h.own, h.os, h.tape, h.output, h.size, h.oth⟩
theorem RIn.cell {b0 : Nat} {w wr : World} {E : Int} {va : Option Addr} {vc ne m : Nat} {s : Nat → Int} (h : RIn b0 w wr E va vc ne m s) {k o : Nat} {u : Value} (hu : w.cell? ⟨k, o, none⟩ = some u) (hr : some k ≠ (Value.slice va ne vc).ownBlock) : wr.cell? ⟨k, o, none⟩ = some u :=
  (World.cell?_of_block (w := w) (w' := wr) (a := ⟨k, o, none⟩) (h.oth k (ltCell hu) hr)).trans hu

theorem RIn.pop {b0 : Nat} {w wr w' : World} {E : Int} {gH vc ne m m2 : Nat} {s s2 : Nat → Int} (h : RIn b0 w wr E (some ⟨gH, 0, none⟩) vc ne m s) (hM : HeapM b0 w' w.heap.size 1 gH m2 vc s2) (hF : HFr wr w' w.heap.size 1 gH) : RIn b0 w w' E (some ⟨gH, 0, none⟩) vc ne m2 s2 :=
  ⟨(hF.box 0 (by decide)).trans h.c0, hM.sl, (hF.fz _ _).trans h.z1, hM.own, hF.os.trans h.os, hF.tape.trans h.tape, hF.output.trans h.output, hF.size.trans h.size, fun k hk hr => (hF.oth k (fun e => hr (by rw [e]; rfl)) (by omega)).trans (h.oth k hk hr)⟩

set_option maxRecDepth 20000 in
set_option maxHeartbeats 4000000 in
theorem stationFree_any (b0 b bS n : Nat) (a : Option Addr) (len cap : Nat) (g : Nat → Int) (m : Int → Value) (k : Nat) (t0 : Int) (E : Int) (va : Option Addr) (vc : Nat) (ne : Nat) (s : Nat → Int) (w : World) (hk : k < len) (hlen : len ≤ 100) (hn : n ≤ 1000)
    (h0 : w.cell? ⟨b, 0, none⟩ = some (.slice a len cap)) (hI : IsInts 0 b0 w a len g) (h6 : w.cell? ⟨b, 6, none⟩ = some (.map (some bS))) (hM : KV 3 w bS n (.agg #[.int .i64 0, .slice none 0 0]) m) (hv : m k = .agg #[.int .i64 E, .slice va ne vc])
    (hbr : some b ≠ (Value.slice va ne vc).ownBlock) (hSr : some bS ≠ (Value.slice va ne vc).ownBlock)
    (hE : 0 ≤ E ∧ E ≤ 100) (hne : ne ≤ 100) (ho : w.ownsRow b0 3 1 (.slice va ne vc) ne (numCells s ne)) (hH : IsHeap s ne) (hs : ∀ x ∈ elems s ne, 0 ≤ x ∧ x ≤ 1000000) :
    Calls Tryz.prog 71 #[.pointer (some ⟨b, 0, none⟩), .int .i64 k, .int .i64 t0] w fun e w' =>
      (e = .returned (.tuple #[.int .i64 0, .bool false]) ∧ g k ≤ E ∧ RFr w w' (Value.slice va ne vc).ownBlock bS) ∨
      (∃ T m' s', e = .returned (.tuple #[.int .i64 T, .bool true]) ∧ SF t0 E (g k) (elems s ne) T (elems s' m') ∧ E + (m' : Int) < g k ∧ IsHeap s' m' ∧ m' ≤ ne ∧
        KV 3 w' bS (n + 1) (.agg #[.int .i64 0, .slice none 0 0]) (fun y => if y = (k : Int) then .agg #[.int .i64 E, .slice va m' vc] else m y) ∧ w'.ownsRow b0 3 1 (.slice va m' vc) m' (numCells s' m') ∧ RFr w w' (Value.slice va ne vc).ownBlock bS) := by
  have hwf := wf_small (x := (k : Int)) (by omega) (by omega)
  have hlk := hM.lookup Tryz.underlying3 Tryz.underlying88 (Tryz.zeroRoom _) hwf
  rw [hv] at hlk
  have hk' : (k : Int) < (len : Int) := by omega
  have hk0 : (0 : Int) ≤ (k : Int) := by omega
  obtain ⟨ba, oa, rfl, _, hba, gq⟩ := hI k hk
  have hrow : ∀ q, (Value.slice va ne vc).ownBlock = some q → b0 ≤ q ∧ q < w.heap.size := fun q hq => ho.lt q hq
  have hbar : some ba ≠ (Value.slice va ne vc).ownBlock := fun e => by have := (hrow ba e.symm).1; omega
  have hst : RIn b0 w (w.alloc (.cells #[.int .i64 E, .slice va ne vc] 171)) E va vc ne ne s := by
    have hA := b1 w (.cells #[.int .i64 E, .slice va ne vc] 171)
    have hTb := Go.heap_alloc_new w (.cells #[.int .i64 E, .slice va ne vc] 171)
    refine ⟨by rw [World.cell?_alloc_at _ _ _ _ (by simp)]; rfl, by rw [World.cell?_alloc_at _ _ _ _ (by simp)]; rfl, by rw [World.frozen?_alloc_at _ _ _ _ (by simp)], ho.alloc _, rfl, rfl, rfl, by simp, fun q hq _ => hA.block q hq⟩
  go_enter Tryz.func71, Tryz.ntmps71
  go_wp2
  go_loopw [2] (fun tt wr => ∃ (T : Int) (m' : Nat) (s' : Nat → Int), tt = .int .i64 T ∧ m' ≤ ne ∧ IsHeap s' m' ∧ SF t0 E (g k) (elems s ne) T (elems s' m') ∧ RIn b0 w wr E va vc ne m' s') (fun _ wr => lenAt wr ⟨w.heap.size, 1, none⟩)
  case atStart => exact ⟨t0, ne, s, rfl, Nat.le_refl _, hH, SF.start _ _ _ _, hst⟩
  case round =>
    obtain ⟨T, m', s', rfl, hm, hH', hSF, hIn⟩ := hrel
    have hsz := fun q => sizeI_any w.heap.size 1 m' vc va (wr.drewN q) hIn.c1
    have d0 := hIn.c0
    have d1 := hIn.c1
    have d2 := hIn.cell h0 hbr
    have d3 := hIn.cell gq hbar
    have hlb : Hid (lenAt wr ⟨w.heap.size, 1, none⟩ = m') := by unfold Hid lenAt; rw [hIn.c1]
    have hw1 : IntKind.i64.wrap (E + (m' : Int)) = E + (m' : Int) := by rw [IntKind.wrap_i64]; omega
    have hIn' : Hid _ := hIn
    have hSF' : Hid _ := hSF
    clear hIn hSF
    by_cases hf : g k ≤ E + (m' : Int)
    · by_cases hm0 : m' = 0
      · subst hm0
        go_wp2
        go_quiet ((go_at_call 107; exact Calls.quiet_of_same (hsz _)))
        go_wp2_with (go_at_call 107; refine (hsz _).mono ?_; rintro _ _ ⟨rfl, rfl⟩)
        refine bodyPost_ret (v := .tuple #[.int .i64 0, .bool false]) (by simp [results, Tryz.results71, go_sem]) rfl (Or.inl ⟨rfl, by omega, ?_⟩)
        exact ⟨hIn'.out.os, hIn'.out.tape, hIn'.out.output, by have := hIn'.out.size; simp; omega, fun q h1 _ h3 => hIn'.out.oth q h1 h3⟩
      · obtain ⟨gH, cc, hva⟩ := Joins.ownsRow_form hIn'.out.own (by omega)
        injection hva with e1 e2 e3
        subst e1
        subst e3
        clear e2
        have hcc : m' ≤ vc := by
          rcases hIn'.out.own.2 with ⟨e, e'⟩ | ⟨g', cap2, cur, e, hb, hg, hnc, _⟩
          · omega
          · injection e with _ _ e3; omega
        have hgl := hrow gH rfl
        have hHM : ∀ q, HeapM b0 (wr.drewN q) w.heap.size 1 gH m' vc s' := fun q => ⟨hIn'.out.c1, hIn'.out.own, by omega⟩
        have hPop := fun q => pop_any b0 w.heap.size 1 gH m' vc s' (wr.drewN q) (by omega) (by omega) hcc (hHM q) hIn'.out.z1 hH'
        have hbd := hs (s' 0) (hSF'.out.mem _ (elems_mem.2 ⟨0, by omega, rfl⟩))
        have hw2 : IntKind.i64.wrap (s' 0 + 1) = s' 0 + 1 := by rw [IntKind.wrap_i64]; omega
        have hm0' : ((m' : Int) == 0) = false := by simp; omega
        have hstep : ∀ s2, (elems s' m').Perm (s' 0 :: elems s2 (m' - 1)) → Hid (SF t0 E (g k) (elems s ne) (if T < s' 0 + 1 then s' 0 + 1 else T) (elems s2 (m' - 1))) := fun s2 h => hSF'.out.step _ h (fun x hx => by obtain ⟨j, hj, rfl⟩ := elems_mem.1 hx; exact hH'.least j hj) (by rw [elems_len]; exact hf)
        by_cases hmx : T < s' 0 + 1
        · rw [if_pos hmx] at hstep
          go_wp2
          go_quiet ((go_at_call 107; exact Calls.quiet_of_same (hsz _)))
          go_wp2_with (first | (go_at_call 107; refine (hsz _).mono ?_; rintro _ _ ⟨rfl, rfl⟩) | (go_at_call 108; refine (hPop _).mono ?_; rintro _ w5 ⟨rfl, s5, hM5, hH5, hP5, hF5⟩))
          go_roundw
          case rel => first | exact ⟨s' 0 + 1, m' - 1, s5, by go_num, by omega, hH5, (hstep s5 hP5).out, (hIn'.out.drewN _).pop hM5 hF5⟩ | ((repeat apply Exists.intro); exact ⟨⟨s' 0 + 1, m' - 1, s5, by go_num, by omega, hH5, (hstep s5 hP5).out, (hIn'.out.drewN _).pop hM5 hF5⟩, rfl⟩)
          case measure => rw [hlb.out]; unfold lenAt; rw [hM5.sl]; dsimp only; omega
        · rw [if_neg hmx] at hstep
          go_wp2
          go_quiet ((go_at_call 107; exact Calls.quiet_of_same (hsz _)))
          go_wp2_with (first | (go_at_call 107; refine (hsz _).mono ?_; rintro _ _ ⟨rfl, rfl⟩) | (go_at_call 108; refine (hPop _).mono ?_; rintro _ w5 ⟨rfl, s5, hM5, hH5, hP5, hF5⟩))
          go_roundw
          case rel => first | exact ⟨T, m' - 1, s5, by go_num, by omega, hH5, (hstep s5 hP5).out, (hIn'.out.drewN _).pop hM5 hF5⟩ | ((repeat apply Exists.intro); exact ⟨⟨T, m' - 1, s5, by go_num, by omega, hH5, (hstep s5 hP5).out, (hIn'.out.drewN _).pop hM5 hF5⟩, rfl⟩)
          case measure => rw [hlb.out]; unfold lenAt; rw [hM5.sl]; dsimp only; omega
    · have hf' : E + (m' : Int) < g k := by omega
      go_wp2
      go_quiet ((go_at_call 107; exact Calls.quiet_of_same (hsz _)))
      rename_i nq
      go_wp2
      have hIq := hIn'.out.drewN (nq + 1)
      have d6 := hIn'.out.cell h6 hbr
      have hKq : KV 3 (wr.drewN (nq + 1)) bS n (.agg #[.int .i64 0, .slice none 0 0]) m := hM.same (hIq.oth bS hM.lt hSr)
      obtain ⟨W', hup, hK', hgr⟩ := hKq.update Tryz.underlying3 Tryz.underlying88 (by unfold maxLen; omega) hwf (.agg #[.int .i64 E, .slice va m' vc])
      go_region
      all_goals
        go_wp2
        refine bodyPost_ret (v := .tuple #[.int .i64 T, .bool true]) (by simp [results, Tryz.results71, go_sem]) rfl (Or.inr ⟨T, m', s', rfl, hSF'.out, hf', hH', hm, hK', ?_, ?_⟩)
        · refine ownsRow_same hIq.own (fun q hq => ?_)
          have eo : (Value.slice va m' vc).ownBlock = (Value.slice va ne vc).ownBlock := by cases va <;> rfl
          have hq2 := hrow q (eo.symm.trans hq)
          exact hgr.block q (by rw [hIq.size]; omega) (fun e => hSr (by rw [← eo, hq]; exact e.symm))
        · exact ⟨hgr.os.trans hIq.os, hgr.tape.trans hIq.tape, hgr.output.trans hIq.output, by have := hgr.size; have := hIq.size; omega, fun q h1 h2 h3 => (hgr.block q (by rw [hIq.size]; omega) (fun e => h2 (by injection e))).trans (hIq.oth q h1 h3)⟩
end Go.Proofs.YtelickcfodcmaaaGreatDoor

namespace Go.Proofs.YtelickcfodcmaaaGreatDoor
open Go.RowKit

set_option maxRecDepth 20000 in
set_option maxHeartbeats 4000000 in
theorem enter_any (b bS n : Nat) (m : Int → Value) (k : Nat) (E : Int) (va : Option Addr) (vc : Nat) (ne : Nat) (w : World) (hk : k ≤ 100) (hn : n ≤ 1000)
    (h6 : w.cell? ⟨b, 6, none⟩ = some (.map (some bS))) (hM : KV 3 w bS n (.agg #[.int .i64 0, .slice none 0 0]) m) (hv : m k = .agg #[.int .i64 E, .slice va ne vc]) (hE : 0 ≤ E ∧ E ≤ 100) :
    Calls Tryz.prog 110 #[.pointer (some ⟨b, 0, none⟩), .int .i64 k] w fun e w' => e = .returned (.tuple #[]) ∧
        KV 3 w' bS (n + 1) (.agg #[.int .i64 0, .slice none 0 0]) (fun y => if y = (k : Int) then .agg #[.int .i64 (E + 1), .slice va ne vc] else m y) ∧ RFr w w' none bS := by
  have hwf := wf_small (x := (k : Int)) (by omega) (by omega)
  have hlk := hM.lookup Tryz.underlying3 Tryz.underlying88 (Tryz.zeroRoom _) hwf
  rw [hv] at hlk
  have hw1 : IntKind.i64.wrap (E + 1) = E + 1 := by rw [IntKind.wrap_i64]; omega
  go_enter Tryz.func110, Tryz.ntmps110
  have hA := b1 w (.cells #[.int .i64 (E + 1), .slice va ne vc] 171)
  have hTb := Go.heap_alloc_new w (.cells #[.int .i64 (E + 1), .slice va ne vc] 171)
  go_wp2
  have c0 := cell_of_row _ w.heap.size 0 _ _ _ hTb
  have c1 := cell_of_row _ w.heap.size 1 _ _ _ hTb
  simp at c0 c1
  have d6 := cellLater hA h6
  have hKq : KV 3 (w.alloc (.cells #[.int .i64 (E + 1), .slice va ne vc] 171)).drew bS n (.agg #[.int .i64 0, .slice none 0 0]) m := hM.same (hA.block bS hM.lt)
  obtain ⟨W', hup, hK', hgr⟩ := hKq.update Tryz.underlying3 Tryz.underlying88 (by unfold maxLen; omega) hwf (.agg #[.int .i64 (E + 1), .slice va ne vc])
  go_region
  all_goals
    go_wp2
    go_end0
    refine ⟨rfl, hK', hgr.os, hgr.tape, hgr.output, by have := hgr.size; have := hA.size; simp at *; omega, fun q h1 h2 _ => (hgr.block q (by simp; omega) (fun e => h2 (by injection e))).trans (hA.block q h1)⟩

set_option maxRecDepth 20000 in
set_option maxHeartbeats 4000000 in
theorem leave_any (b0 b bS n : Nat) (m : Int → Value) (k : Nat) (x : Int) (E : Int) (va : Option Addr) (vc : Nat) (ne : Nat) (s : Nat → Int) (w : World) (hk : k ≤ 100) (hn : n ≤ 1000) (hb0 : b0 ≤ w.heap.size)
    (h6 : w.cell? ⟨b, 6, none⟩ = some (.map (some bS))) (hM : KV 3 w bS n (.agg #[.int .i64 0, .slice none 0 0]) m) (hv : m k = .agg #[.int .i64 E, .slice va ne vc]) (hE : 0 ≤ E ∧ E ≤ 100)
    (hbr : some b ≠ (Value.slice va ne vc).ownBlock) (hSr : some bS ≠ (Value.slice va ne vc).ownBlock) (hne : ne ≤ 100) (ho : w.ownsRow b0 3 1 (.slice va ne vc) ne (numCells s ne)) (hH : IsHeap s ne) :
    Calls Tryz.prog 109 #[.pointer (some ⟨b, 0, none⟩), .int .i64 k, .int .i64 x] w fun e w' => e = .returned (.tuple #[]) ∧ ∃ gH cap s', IsHeap s' (ne + 1) ∧ (elems s' (ne + 1)).Perm (x :: elems s ne) ∧
        KV 3 w' bS (n + 1) (.agg #[.int .i64 0, .slice none 0 0]) (fun y => if y = (k : Int) then .agg #[.int .i64 (E - 1), .slice (some ⟨gH, 0, none⟩) (ne + 1) cap] else m y) ∧ w'.ownsRow b0 3 1 (.slice (some ⟨gH, 0, none⟩) (ne + 1) cap) (ne + 1) (numCells s' (ne + 1)) ∧
        (some gH = (Value.slice va ne vc).ownBlock ∨ w.heap.size ≤ gH) ∧ RFr w w' (Value.slice va ne vc).ownBlock bS := by
  have hwf := wf_small (x := (k : Int)) (by omega) (by omega)
  have hlk := hM.lookup Tryz.underlying3 Tryz.underlying88 (Tryz.zeroRoom _) hwf
  rw [hv] at hlk
  have hw1 : IntKind.i64.wrap (E - 1) = E - 1 := by rw [IntKind.wrap_i64]; omega
  have hA := b1 w (.cells #[.int .i64 (E - 1), .slice va ne vc] 171)
  have hrow : ∀ q, (Value.slice va ne vc).ownBlock = some q → b0 ≤ q ∧ q < w.heap.size := fun q hq => ho.lt q hq
  have hPu := push_any b0 w.heap.size 1 ne (.slice va ne vc) s x (w.alloc (.cells #[.int .i64 (E - 1), .slice va ne vc] 171)) hne (by simp; omega) (by rw [World.cell?_alloc_at _ _ _ _ (by simp)]; rfl) (by rw [World.frozen?_alloc_at _ _ _ _ (by simp)]) (ho.alloc _) (fun e => by have := (hrow _ e).2; omega) hH
  go_enter Tryz.func109, Tryz.ntmps109
  go_wp2_with (go_at_call 152; refine hPu.mono ?_; rintro _ w5 ⟨rfl, gH, cap, s', hM5, hH5, hP5, hF5, hz5⟩)
  have hsA : (w.alloc (.cells #[.int .i64 (E - 1), .slice va ne vc] 171)).heap.size = w.heap.size + 1 := by simp
  have v0 : (w.alloc (.cells #[.int .i64 (E - 1), .slice va ne vc] 171)).cell? ⟨w.heap.size, 0, none⟩ = some (.int .i64 (E - 1)) := by rw [World.cell?_alloc_at _ _ _ _ (by simp)]; rfl
  have c0 := (hF5.box 0 _ (by decide) v0).1
  have c1 := hM5.sl
  have lb := ltCell h6
  have lS := hM.lt
  dsimp only at lb
  have hob := hF5.oth b (by omega) (by omega) hbr
  have hoS := (hF5.oth bS (by omega) (by omega) hSr).trans (hA.block bS lS)
  have d6 := (World.cell?_of_block (w := w.alloc (.cells #[.int .i64 (E - 1), .slice va ne vc] 171)) (w' := w5) (a := ⟨b, 6, none⟩) hob).trans (cellLater hA h6)
  have hKq : KV 3 w5.drew bS n (.agg #[.int .i64 0, .slice none 0 0]) m := hM.same hoS
  obtain ⟨W', hup, hK', hgr⟩ := hKq.update Tryz.underlying3 Tryz.underlying88 (by unfold maxLen; omega) hwf (.agg #[.int .i64 (E - 1), .slice (some ⟨gH, 0, none⟩) (ne + 1) cap])
  have hgS : gH ≠ bS := by
    rcases hF5.loc with e | e
    · intro e2; exact hSr (by rw [← e, e2])
    · omega
  have hgl := (hM5.own.lt gH rfl).2
  have hfin : Hid (W'.ownsRow b0 3 1 (.slice (some ⟨gH, 0, none⟩) (ne + 1) cap) (ne + 1) (numCells s' (ne + 1)) ∧ (some gH = (Value.slice va ne vc).ownBlock ∨ w.heap.size ≤ gH) ∧ RFr w W' (Value.slice va ne vc).ownBlock bS) := by
    refine ⟨ownsRow_same hM5.own (fun q hq => ?_), ?_, hgr.os.trans hF5.os, hgr.tape.trans hF5.tape, hgr.output.trans hF5.output, ?_, fun q h1 h2 h3 => ?_⟩
    · simp only [Value.ownBlock, Option.some.injEq] at hq
      subst hq
      exact hgr.block _ hgl (fun e => hgS (by injection e))
    · rcases hF5.loc with e | e
      · exact Or.inl e
      · exact Or.inr (by omega)
    · have h1 := hgr.size; have h2 := hF5.size; have h3 : w5.drew.heap.size = w5.heap.size := rfl; omega
    · have h4 := hF5.size
      exact (hgr.block q (by show q < w5.heap.size; omega) (fun e => h2 (by injection e))).trans ((hF5.oth q (by omega) (by omega) h3).trans (hA.block q h1))
  clear hoS hob hsA v0 hF5 hgr
  go_region
  all_goals
    go_wp2
    go_end0
    exact ⟨rfl, gH, cap, s', hH5, hP5, hK', hfin.out⟩
end Go.Proofs.YtelickcfodcmaaaGreatDoor

namespace Go.Proofs.YtelickcfodcmaaaGreatDoor
open Go.RowKit

theorem leaveO_more {f : Nat → TrainD} {P : Nat → RowD} {i : Nat} {t : Int} {j m : Nat} (h : j ≠ i ∨ m + 1 < (P i).n) : leaveO f (moreP P i t) j m = leaveO f P j m := by
  by_cases e : j = i
  · subst e
    have hm := h.resolve_left (fun h => h rfl)
    unfold leaveO
    rw [moreP_n, if_pos (by omega), if_pos hm, moreP_old hm]
  · unfold leaveO
    rw [moreP_other e]
theorem thereRow_old {f : Nat → TrainD} {P : Nat → RowD} {i : Nat} {t x t' : Int} {j : Nat} : ∀ n, (j ≠ i ∨ n < (P i).n ∨ n = 0) → thereRow f (moreP P i t) x t' j n = thereRow f P x t' j n
  | 0, _ => rfl
  | n + 1, h => by
    simp only [thereRow]
    rw [thereRow_old n (by omega)]
    congr 1
    unfold hereB
    rw [leaveO_more (by omega)]
theorem thereRow_new {f : Nat → TrainD} {P : Nat → RowD} {i : Nat} {t x t' : Int} (hk : (P i).n < (f i).nl) : (thereRow f (moreP P i t) x t' i ((P i).n + 1) : Int) = (thereRow f P x t' i (P i).n : Int)
    + (if 0 < (P i).n ∧ ((f i).leg ((P i).n - 1)).to = x then (if t' ≤ t then 0 else -1) else 0)
    + (if ((f i).leg (P i).n).to = x then (if (P i).n + 1 < (f i).nl then 1 else if t' ≤ t + ((f i).leg (P i).n).run then 1 else 0) else 0) := by
  have hlast : leaveO f (moreP P i t) i (P i).n = if (P i).n + 1 < (f i).nl then none else some (t + ((f i).leg (P i).n).run) := by
    unfold leaveO
    rw [moreP_n, if_neg (by omega), moreP_new]
  have h1 : (thereRow f (moreP P i t) x t' i (P i).n : Int) = (thereRow f P x t' i (P i).n : Int) + (if 0 < (P i).n ∧ ((f i).leg ((P i).n - 1)).to = x then (if t' ≤ t then 0 else -1) else 0) := by
    cases hn : (P i).n with
    | zero => simp [thereRow]
    | succ k =>
      simp only [thereRow, Nat.add_sub_cancel]
      rw [thereRow_old (P := P) (i := i) k (by omega)]
      have e1 : leaveO f (moreP P i t) i k = some t := by
        have h2 := moreP_new (P := P) (i := i) (t := t)
        rw [hn] at h2
        unfold leaveO
        rw [moreP_n, hn, if_pos (by omega), h2]
      have e2 : leaveO f P i k = none := by
        unfold leaveO
        rw [hn, if_neg (by omega), if_pos (by omega)]
      unfold hereB
      rw [e1, e2]
      by_cases hx : ((f i).leg k).to = x
      · by_cases ht : t' ≤ t
        · simp [hx, ht]
        · simp [hx, ht]; omega
      · simp [hx]
  simp only [thereRow]
  rw [Int.natCast_add, h1]
  congr 1
  unfold hereB
  rw [hlast]
  by_cases hx : ((f i).leg (P i).n).to = x
  · by_cases hl : (P i).n + 1 < (f i).nl
    · simp [hx, hl]
    · by_cases ht : t' ≤ t + ((f i).leg (P i).n).run
      · simp [hx, hl, ht]
      · simp [hx, hl, ht]
  · simp [hx]
theorem thereAll_old {f : Nat → TrainD} {P : Nat → RowD} {i : Nat} {t x t' : Int} : ∀ n, n ≤ i → thereAll f (moreP P i t) x t' n = thereAll f P x t' n
  | 0, _ => rfl
  | n + 1, h => by
    simp only [thereAll]
    rw [thereAll_old n (by omega), thereRow_old _ (Or.inl (by omega)), moreP_other (by omega)]
theorem thereAll_new {f : Nat → TrainD} {P : Nat → RowD} {i : Nat} {t x t' : Int} (hk : (P i).n < (f i).nl) : ∀ n, i < n → (thereAll f (moreP P i t) x t' n : Int) = (thereAll f P x t' n : Int)
    + (if 0 < (P i).n ∧ ((f i).leg ((P i).n - 1)).to = x then (if t' ≤ t then 0 else -1) else 0)
    + (if ((f i).leg (P i).n).to = x then (if (P i).n + 1 < (f i).nl then 1 else if t' ≤ t + ((f i).leg (P i).n).run then 1 else 0) else 0)
  | 0, h => absurd h (Nat.not_lt_zero i)
  | n + 1, h => by
    simp only [thereAll]
    rcases Nat.lt_or_ge i n with h1 | h1
    · rw [Int.natCast_add, thereAll_new hk n h1, thereRow_old _ (Or.inl (by omega)), moreP_other (by omega)]
      omega
    · obtain rfl : i = n := by omega
      rw [Int.natCast_add, thereAll_old i (Nat.le_refl _), moreP_n, thereRow_new hk]
      omega

/-- a board's stations: E for ever, L until then -/
structure SI (np : Nat) (f : Nat → TrainD) (P : Nat → RowD) (last : Int) (E : Int → Int) (L : Int → List Int) : Prop where
  cnt : ∀ x t, last ≤ t → (thereAll f P x t np : Int) = E x + (cntGe (L x) t : Int)
def leaveE (E : Int → Int) (x : Int) : Int → Int := fun y => if y = x then E y - 1 else E y
def enterE (E : Int → Int) (x : Int) : Int → Int := fun y => if y = x then E y + 1 else E y
def leaveL (L : Int → List Int) (x t : Int) : Int → List Int := fun y => if y = x then t :: L y else L y
theorem leaveL_cnt (L : Int → List Int) (y s x t' : Int) : (cntGe (leaveL L y s x) t' : Int) = (cntGe (L x) t' : Int) + (if y = x then (if t' ≤ s then 1 else 0) else 0) := by
  unfold leaveL
  by_cases e : x = y
  · rw [if_pos e, if_pos e.symm, cntGe_cons]
    split <;> simp
  · rw [if_neg e, if_neg (fun h => e h.symm)]
    simp
theorem leaveE_at (E : Int → Int) (y x : Int) : leaveE E y x = E x + (if y = x then -1 else 0) := by
  unfold leaveE
  by_cases e : x = y
  · rw [if_pos e, if_pos e.symm]; omega
  · rw [if_neg e, if_neg (fun h => e h.symm)]; omega
theorem enterE_at (E : Int → Int) (y x : Int) : enterE E y x = E x + (if y = x then 1 else 0) := by
  unfold enterE
  by_cases e : x = y
  · rw [if_pos e, if_pos e.symm]
  · rw [if_neg e, if_neg (fun h => e h.symm)]; omega
theorem SI.start (np : Nat) (f : Nat → TrainD) (last : Int) : SI np f (fun _ => ⟨0, fun _ => 0⟩) last (fun _ => 0) (fun _ => []) := by
  refine ⟨fun x t _ => ?_⟩
  have h : ∀ n, thereAll f (fun _ => ⟨0, fun _ => 0⟩) x t n = 0 := fun n => by
    induction n with
    | zero => rfl
    | succ n ih => simp only [thereAll, thereRow, ih]
  rw [h]; rfl
theorem SI.keep {np : Nat} {f : Nat → TrainD} {P : Nat → RowD} {last t : Int} {E : Int → Int} {L M : Int → List Int} (h : SI np f P last E L) (ht : last ≤ t) (hM : ∀ x u, t ≤ u → cntGe (L x) u = cntGe (M x) u) : SI np f P t E M :=
  ⟨fun x u hu => by rw [← hM x u hu]; exact h.cnt x u (by omega)⟩
/-- a leg is begun, and it is not the train's last -/
theorem SI.go {np : Nat} {f : Nat → TrainD} {P : Nat → RowD} {t : Int} {E : Int → Int} {L : Int → List Int} (h : SI np f P t E L) {i : Nat} (hi : i < np) (hk : (P i).n < (f i).nl)
    {E1 : Int → Int} {L1 : Int → List Int} (h0 : (P i).n = 0 → E1 = E ∧ L1 = L) (h1 : 0 < (P i).n → E1 = leaveE E ((f i).leg ((P i).n - 1)).to ∧ L1 = leaveL L ((f i).leg ((P i).n - 1)).to t) :
    ((P i).n + 1 < (f i).nl → SI np f (moreP P i t) t (enterE E1 ((f i).leg (P i).n).to) L1) ∧
    (¬ (P i).n + 1 < (f i).nl → SI np f (moreP P i t) t (leaveE (enterE E1 ((f i).leg (P i).n).to) ((f i).leg (P i).n).to) (leaveL L1 ((f i).leg (P i).n).to (t + ((f i).leg (P i).n).run))) := by
  have hE : ∀ x u, t ≤ u → E1 x + (cntGe (L1 x) u : Int) = E x + (cntGe (L x) u : Int) + (if 0 < (P i).n ∧ ((f i).leg ((P i).n - 1)).to = x then (if u ≤ t then 0 else -1) else 0) := fun x u _ => by
    rcases Nat.eq_zero_or_pos (P i).n with e | e
    · obtain ⟨rfl, rfl⟩ := h0 e
      rw [if_neg (by omega)]; omega
    · obtain ⟨rfl, rfl⟩ := h1 e
      rw [leaveE_at, leaveL_cnt]
      by_cases hx : ((f i).leg ((P i).n - 1)).to = x
      · simp only [if_pos hx, if_pos (And.intro e hx)]
        split <;> omega
      · have hn : ¬ (0 < (P i).n ∧ ((f i).leg ((P i).n - 1)).to = x) := fun h => hx h.2
        simp only [if_neg hx, if_neg hn]; omega
  refine ⟨fun hl => ⟨fun x u hu => ?_⟩, fun hl => ⟨fun x u hu => ?_⟩⟩
  · have h2 := hE x u hu
    have h3 := h.cnt x u hu
    rw [thereAll_new hk np hi, enterE_at, if_pos hl]
    omega
  · have h2 := hE x u hu
    have h3 := h.cnt x u hu
    rw [thereAll_new hk np hi, leaveE_at, enterE_at, leaveL_cnt, if_neg hl]
    by_cases hx : ((f i).leg (P i).n).to = x
    · simp only [if_pos hx]
      omega
    · simp only [if_neg hx]
      omega
theorem SI.first {np : Nat} {g : Nat → Int} {f : Nat → TrainD} {P : Nat → RowD} {last : Int} {E : Int → Int} {L : Int → List Int} (h : SI np f P last E L) {x low T : Int} {L' : List Int} (hl : last ≤ low) (hS : SF low (E x) (g x.toNat) (L x) T L') (hf : E x + (L'.length : Int) < g x.toNat) : IsFirst np g f P x low T := by
  have h1 := hS.lo
  refine ⟨h1, ?_, fun u h2 h3 => ?_⟩
  · unfold fullAt
    rw [h.cnt x T (by omega)]
    have := hS.free hf
    omega
  · unfold fullAt
    rw [h.cnt x u (by omega)]
    exact hS.full u h2 h3
theorem SI.never {np : Nat} {g : Nat → Int} {f : Nat → TrainD} {P : Nat → RowD} {last : Int} {E : Int → Int} {L : Int → List Int} (h : SI np f P last E L) {x low : Int} (hl : last ≤ low) (hf : g x.toNat ≤ E x) : ∀ t, low ≤ t → fullAt np g f P x t := fun t ht => by
  unfold fullAt
  rw [h.cnt x t (by omega)]
  omega
end Go.Proofs.YtelickcfodcmaaaGreatDoor

namespace Go.Proofs.YtelickcfodcmaaaGreatDoor
open Go.RowKit

theorem heap5 (w : World) (o0 o1 o2 o3 o4 : Obj) : (((((w.alloc o0).alloc o1).alloc o2).alloc o3).alloc o4).drew.heap[w.heap.size + 1]? = some o1 ∧ (((((w.alloc o0).alloc o1).alloc o2).alloc o3).alloc o4).drew.heap[w.heap.size + 1 + 1]? = some o2 ∧
    (((((w.alloc o0).alloc o1).alloc o2).alloc o3).alloc o4).drew.heap[w.heap.size + 1 + 1 + 1]? = some o3 ∧ (((((w.alloc o0).alloc o1).alloc o2).alloc o3).alloc o4).drew.heap[w.heap.size + 1 + 1 + 1 + 1]? = some o4 ∧ Below w.heap.size w (((((w.alloc o0).alloc o1).alloc o2).alloc o3).alloc o4).drew := by
  have e : ∀ W : World, W.drew.heap = W.heap := fun _ => rfl
  rw [e]
  have n1 := Go.heap_alloc_new (w.alloc o0) o1
  have n2 := Go.heap_alloc_new ((w.alloc o0).alloc o1) o2
  have n3 := Go.heap_alloc_new (((w.alloc o0).alloc o1).alloc o2) o3
  have n4 := Go.heap_alloc_new ((((w.alloc o0).alloc o1).alloc o2).alloc o3) o4
  simp only [World.size_alloc] at n1 n2 n3 n4
  have p1 := b1 (w.alloc o0) o1
  have p2 := b1 ((w.alloc o0).alloc o1) o2
  have p3 := b1 (((w.alloc o0).alloc o1).alloc o2) o3
  have p4 := b1 ((((w.alloc o0).alloc o1).alloc o2).alloc o3) o4
  have hB := Below.join (Below.join (Below.join (Below.join (b1 w o0) (Nat.le_refl _) p1) (Nat.le_refl _) p2) (Nat.le_refl _) p3) (Nat.le_refl _) p4
  simp only [World.size_alloc] at p2 p3 p4
  exact ⟨(p4.block _ (by omega)).trans ((p3.block _ (by omega)).trans ((p2.block _ (by omega)).trans n1)), (p4.block _ (by omega)).trans ((p3.block _ (by omega)).trans n2), (p4.block _ (by omega)).trans n3, n4, hB.drew⟩

set_option maxRecDepth 20000 in
set_option maxHeartbeats 4000000 in
theorem newBoard_any (a : Option Addr) (len cap : Nat) (gap : Int) (a' : Option Addr) (np cap' : Nat) (w : World) (hnp : np ≤ 10) :
    Calls Tryz.prog 41 #[.agg #[.slice a len cap, .int .i64 gap, .slice a' np cap']] w fun e w' => ∃ B gR bT bS : Nat, e = .returned (.pointer (some ⟨B, 0, none⟩)) ∧ w'.heap[B]? = some (.cells #[.slice a len cap, .int .i64 gap, .slice a' np cap', .slice (some ⟨gR, 0, none⟩) np np, .int .i64 0, .map (some bT), .map (some bS)] 90) ∧
      w'.heap[gR]? = some (.cells (madeCells #[.slice none 0 0] np) 23) ∧ w'.heap[bT]? = some (.map #[] 0) ∧ w'.heap[bS]? = some (.map #[] 0) ∧ (w.heap.size < B ∧ w.heap.size < gR ∧ w.heap.size < bT ∧ w.heap.size < bS ∧ B ≠ gR ∧ B ≠ bT ∧ B ≠ bS ∧ gR ≠ bT ∧ gR ≠ bS ∧ bT ≠ bS) ∧ Below w.heap.size w w' := by
  obtain ⟨i0, hi, hz0, hz1, hz2⟩ := info_parts Tryz.infoRow
  have hmm := @run_makeMap Tryz.prog
  have hms : ∀ W : World, (Instr.makeSlice 28 (.int .i64 (np : Int)) (.int .i64 (np : Int))).run Tryz.prog W = .ok (.slice (some ⟨W.heap.size, 0, none⟩) np np) (W.alloc (.cells (madeCells #[.slice none 0 0] np) 23)) := fun W => by
    have h := run_make (P := Tryz.prog) W 28 23 i0 _ Tryz.underlying28 hi hz0 .i64 .i64 (np : Int) (np : Int) (by omega) (by omega) (by rw [hz2]; omega) (by omega)
    rw [Int.toNat_natCast, hz1, Nat.mul_one] at h
    exact h
  go_enter Tryz.func41, Tryz.ntmps41
  go_wp2
  go_region
  all_goals
    go_wp2
    go_ret
    first
      | exact ⟨_, _, _, _, rfl, (heap5 _ _ _ _ _ _).2.2.2.1, (heap5 _ _ _ _ _ _).1, (heap5 _ _ _ _ _ _).2.1, (heap5 _ _ _ _ _ _).2.2.1, by refine ⟨?_, ?_, ?_, ?_, ?_, ?_, ?_, ?_, ?_, ?_⟩ <;> omega, (heap5 _ _ _ _ _ _).2.2.2.2⟩
      | exact ⟨_, _, _, _, rfl, (heap5 _ _ _ _ _ _).2.2.2.1, (heap5 _ _ _ _ _ _).1, (heap5 _ _ _ _ _ _).2.2.1, (heap5 _ _ _ _ _ _).2.1, by refine ⟨?_, ?_, ?_, ?_, ?_, ?_, ?_, ?_, ?_, ?_⟩ <;> omega, (heap5 _ _ _ _ _ _).2.2.2.2⟩
      | exact ⟨_, _, _, _, rfl, (heap5 _ _ _ _ _ _).2.2.2.1, (heap5 _ _ _ _ _ _).2.1, (heap5 _ _ _ _ _ _).1, (heap5 _ _ _ _ _ _).2.2.1, by refine ⟨?_, ?_, ?_, ?_, ?_, ?_, ?_, ?_, ?_, ?_⟩ <;> omega, (heap5 _ _ _ _ _ _).2.2.2.2⟩
      | exact ⟨_, _, _, _, rfl, (heap5 _ _ _ _ _ _).2.2.2.1, (heap5 _ _ _ _ _ _).2.1, (heap5 _ _ _ _ _ _).2.2.1, (heap5 _ _ _ _ _ _).1, by refine ⟨?_, ?_, ?_, ?_, ?_, ?_, ?_, ?_, ?_, ?_⟩ <;> omega, (heap5 _ _ _ _ _ _).2.2.2.2⟩
      | exact ⟨_, _, _, _, rfl, (heap5 _ _ _ _ _ _).2.2.2.1, (heap5 _ _ _ _ _ _).2.2.1, (heap5 _ _ _ _ _ _).1, (heap5 _ _ _ _ _ _).2.1, by refine ⟨?_, ?_, ?_, ?_, ?_, ?_, ?_, ?_, ?_, ?_⟩ <;> omega, (heap5 _ _ _ _ _ _).2.2.2.2⟩
      | exact ⟨_, _, _, _, rfl, (heap5 _ _ _ _ _ _).2.2.2.1, (heap5 _ _ _ _ _ _).2.2.1, (heap5 _ _ _ _ _ _).2.1, (heap5 _ _ _ _ _ _).1, by refine ⟨?_, ?_, ?_, ?_, ?_, ?_, ?_, ?_, ?_, ?_⟩ <;> omega, (heap5 _ _ _ _ _ _).2.2.2.2⟩
end Go.Proofs.YtelickcfodcmaaaGreatDoor

namespace Go.Proofs.YtelickcfodcmaaaGreatDoor
open Go.RowKit

/-- who has the tracks of a station: so many for ever, the others up to these ends -/
structure RoomD where
  E : Int
  va : Option Addr
  vc : Nat
  ne : Nat
  s : Nat → Int
def rowV (r : RoomD) : Value := .slice r.va r.ne r.vc
def listE (r : RoomD) : List Int := elems r.s r.ne
def trackV (t : TrackD) : Value := .agg #[.int .i64 t.tr, .int .i64 t.frm, .int .i64 t.free]
def roomV (r : RoomD) : Value := .agg #[.int .i64 r.E, .slice r.va r.ne r.vc]
structure Bd (B0 : Nat) (W : World) (b gR bT bS : Nat) (a : Option Addr) (len cap : Nat) (gap : Int) (a' : Option Addr) (np cap' nc : Nat) (v : Nat → Value) (P : Nat → RowD) (last : Int) (n : Nat) (T : Int → TrackD) (R : Int → RoomD) : Prop where
  lp : LP B0 W b gR a len cap gap a' np cap' (some ⟨gR, 0, none⟩) nc v P last
  c5 : W.cell? ⟨b, 5, none⟩ = some (.map (some bT))
  c6 : W.cell? ⟨b, 6, none⟩ = some (.map (some bS))
  kT : KV 3 W bT n (.agg #[.int .i64 0, .int .i64 0, .int .i64 0]) (fun x => trackV (T x))
  kS : KV 3 W bS n (.agg #[.int .i64 0, .slice none 0 0]) (fun x => roomV (R x))
  own : ∀ x, W.ownsRow B0 3 1 (rowV (R x)) (R x).ne (numCells (R x).s (R x).ne)
  heap : ∀ x, IsHeap (R x).s (R x).ne
  apR : ∀ x y, x ≠ y → Apart (rowV (R x)) (rowV (R y))
  apV : ∀ x j, j < np → Apart (rowV (R x)) (v j)
  offR : ∀ x k, (rowV (R x)).ownBlock = some k → k ≠ b ∧ k ≠ gR ∧ k ≠ bT ∧ k ≠ bS
  offV : ∀ j, j < np → ∀ k, (v j).ownBlock = some k → k ≠ bT ∧ k ≠ bS
  dist : b ≠ bT ∧ b ≠ bS ∧ gR ≠ bT ∧ gR ≠ bS ∧ bT ≠ bS
  lo : B0 ≤ bT ∧ B0 ≤ bS
  gr : gR < W.heap.size

theorem Apart.of {u v : Value} (h : ∀ k, u.ownBlock = some k → v.ownBlock ≠ some k) : Apart u v := by
  cases hu : u.ownBlock with
  | none => exact Or.inl hu
  | some k => exact Or.inr (by rw [hu]; exact fun e => h k hu e.symm)
theorem Apart.ne {u v : Value} (h : Apart u v) {k : Nat} (hu : u.ownBlock = some k) : v.ownBlock ≠ some k := by
  rcases h with h | h
  · rw [hu] at h; cases h
  · intro e; exact h (hu.trans e.symm)
theorem LP.keep {B0 : Nat} {W W' : World} {b gR : Nat} {a : Option Addr} {len cap : Nat} {gap : Int} {a' : Option Addr} {np cap' : Nat} {c : Option Addr} {nc : Nat} {v : Nat → Value} {P : Nat → RowD} {last : Int} (h : LP B0 W b gR a len cap gap a' np cap' c nc v P last)
    (hb : W'.heap[b]? = W.heap[b]?) (hg : 0 < np → W'.heap[gR]? = W.heap[gR]?) (hv : ∀ j, j < np → ∀ k, (v j).ownBlock = some k → W'.heap[k]? = W.heap[k]?) : LP B0 W' b gR a len cap gap a' np cap' c nc v P last := by
  have cb : ∀ o u, W.cell? ⟨b, o, none⟩ = some u → W'.cell? ⟨b, o, none⟩ = some u := fun o u hu => (World.cell?_of_block (w := W) (w' := W') (a := ⟨b, o, none⟩) hb).trans hu
  refine ⟨⟨cb _ _ h.l2.c0, cb _ _ h.l2.c1, cb _ _ h.l2.c2, cb _ _ h.l2.c3, cb _ _ h.l2.c4⟩, (World.frozen?_of_block (w := W) (w' := W') (a := ⟨b, 4, none⟩) hb).trans h.z4, fun j hj => ?_, fun j hj => ownsRow_same (h.own j hj) (hv j hj), h.apart, h.off, h.ne, h.lb, h.lg⟩
  have hg' := hg (by omega)
  obtain ⟨e, h1, h2⟩ := h.row j hj
  exact ⟨e, (World.cell?_of_block (w := W) (w' := W') (a := ⟨gR, j, none⟩) hg').trans h1, (World.frozen?_of_block (w := W) (w' := W') (a := ⟨gR, j, none⟩) hg').trans h2⟩

section
variable {B0 : Nat} {W : World} {b gR bT bS : Nat} {a : Option Addr} {len cap : Nat} {gap : Int} {a' : Option Addr} {np cap' nc : Nat} {v : Nat → Value} {P : Nat → RowD} {last : Int} {n : Nat} {T : Int → TrackD} {R : Int → RoomD}

theorem Bd.later (h : Bd B0 W b gR bT bS a len cap gap a' np cap' nc v P last n T R) {W' : World} (hB : Below W.heap.size W W') : Bd B0 W' b gR bT bS a len cap gap a' np cap' nc v P last n T R :=
  ⟨h.lp.later hB, cellLater hB h.c5, cellLater hB h.c6, h.kT.later hB, h.kS.later hB, fun x => ownsRow_later (h.own x) hB, h.heap, h.apR, h.apV, h.offR, h.offV, h.dist, h.lo, Nat.lt_of_lt_of_le h.gr hB.size⟩
theorem Bd.mono (h : Bd B0 W b gR bT bS a len cap gap a' np cap' nc v P last n T R) {n' : Nat} (hn : n ≤ n') : Bd B0 W b gR bT bS a len cap gap a' np cap' nc v P last n' T R :=
  ⟨h.lp, h.c5, h.c6, h.kT.mono hn, h.kS.mono hn, h.own, h.heap, h.apR, h.apV, h.offR, h.offV, h.dist, h.lo, h.gr⟩
theorem Bd.base (h : Bd B0 W b gR bT bS a len cap gap a' np cap' nc v P last n T R) : B0 ≤ W.heap.size := by
  have h1 := h.lp.lb
  have h2 := ltCell h.c5
  dsimp only at h2
  omega

/-- only a station's room has turned -/
theorem Bd.room (h : Bd B0 W b gR bT bS a len cap gap a' np cap' nc v P last n T R) {W' : World} {x : Int} {r : RoomD} (hF : RFr W W' (rowV (R x)).ownBlock bS)
    (hk : KV 3 W' bS (n + 1) (.agg #[.int .i64 0, .slice none 0 0]) (fun y => if y = x then roomV r else roomV (R y))) (ho : W'.ownsRow B0 3 1 (rowV r) r.ne (numCells r.s r.ne)) (hH : IsHeap r.s r.ne)
    (hloc : ∀ k, (rowV r).ownBlock = some k → (rowV (R x)).ownBlock = some k ∨ W.heap.size ≤ k) :
    Bd B0 W' b gR bT bS a len cap gap a' np cap' nc v P last (n + 1) T (fun y => if y = x then r else R y) ∧ Below B0 W W' := by
  obtain ⟨d1, d2, d3, d4, d5⟩ := h.dist
  have lb := ltCell h.c5
  dsimp only at lb
  have hold : ∀ k, k < W.heap.size → k ≠ bS → (rowV (R x)).ownBlock ≠ some k → W'.heap[k]? = W.heap[k]? := fun k h1 h2 h3 => hF.oth k h1 h2 (fun e => h3 e.symm)
  have hb : W'.heap[b]? = W.heap[b]? := hold b lb d2 (fun e => (h.offR x b e).1 rfl)
  have cb : ∀ o u, W.cell? ⟨b, o, none⟩ = some u → W'.cell? ⟨b, o, none⟩ = some u := fun o u hu => (World.cell?_of_block (w := W) (w' := W') (a := ⟨b, o, none⟩) hb).trans hu
  have hrow : ∀ y k, (rowV (R y)).ownBlock = some k → k < W.heap.size := fun y k hk => ((h.own y).lt k hk).2
  have hvlt : ∀ j, j < np → ∀ k, (v j).ownBlock = some k → k < W.heap.size := fun j hj k hk => ((h.lp.own j hj).lt k hk).2
  have hx : ∀ y k, (rowV (if y = x then r else R y)).ownBlock = some k → (∃ z, (rowV (R z)).ownBlock = some k ∧ (y = x → z = x) ∧ (y ≠ x → z = y)) ∨ (y = x ∧ W.heap.size ≤ k) := fun y k hk => by
    by_cases e : y = x
    · subst e
      rw [if_pos rfl] at hk
      rcases hloc k hk with h1 | h1
      · exact Or.inl ⟨y, h1, fun _ => rfl, fun _ => rfl⟩
      · exact Or.inr ⟨rfl, h1⟩
    · rw [if_neg e] at hk
      exact Or.inl ⟨y, hk, fun h => absurd h e, fun _ => rfl⟩
  refine ⟨⟨?_, cb 5 _ h.c5, cb 6 _ h.c6, ?_, ?_, fun y => ?_, fun y => ?_, fun y z hyz => ?_, fun y j hj => ?_, fun y k hk => ?_, h.offV, h.dist, h.lo, Nat.lt_of_lt_of_le h.gr hF.size⟩, ?_⟩
  · refine h.lp.keep hb (fun _ => ?_) (fun j hj k hk => ?_)
    · exact hold gR h.gr d4 (fun e => (h.offR x gR e).2.1 rfl)
    · exact hold k (hvlt j hj k hk) (h.offV j hj k hk).2 (fun e => (h.apV x j hj).ne e hk)
  · exact (h.kT.same (hold bT h.kT.lt d5 (fun e => (h.offR x bT e).2.2.1 rfl))).mono (by omega)
  · have e : (fun y => if y = x then roomV r else roomV (R y)) = fun y => roomV (if y = x then r else R y) := by funext y; split <;> rfl
    rw [e] at hk
    exact hk
  · by_cases e : y = x
    · rw [if_pos e]; exact ho
    · rw [if_neg e]
      refine ownsRow_same (h.own y) (fun k hk => hold k (hrow y k hk) (h.offR y k hk).2.2.2 (fun e2 => ?_))
      exact (h.apR x y (fun e3 => e e3.symm)).ne e2 hk
  · by_cases e : y = x
    · rw [if_pos e]; exact hH
    · rw [if_neg e]; exact h.heap y
  · refine Apart.of (fun k hk hk2 => ?_)
    rcases hx y k hk with ⟨p, hp, hp1, hp2⟩ | ⟨e1, h1⟩ <;> rcases hx z k hk2 with ⟨q, hq, hq1, hq2⟩ | ⟨e2, h2⟩
    · have hpq : p ≠ q := by
        intro e
        by_cases ey : y = x
        · have ez : z ≠ x := fun ez => hyz (ey.trans ez.symm)
          rw [hp1 ey, hq2 ez] at e
          exact ez e.symm
        · by_cases ez : z = x
          · rw [hp2 ey, hq1 ez] at e; exact ey e
          · rw [hp2 ey, hq2 ez] at e; exact hyz e
      exact (h.apR p q hpq).ne hp hq
    · have := hrow p k hp; omega
    · have := hrow q k hq; omega
    · exact hyz (e1.trans e2.symm)
  · refine Apart.of (fun k hk hk2 => ?_)
    rcases hx y k hk with ⟨p, hp, _, _⟩ | ⟨_, h1⟩
    · exact (h.apV p j hj).ne hp hk2
    · have := hvlt j hj k hk2; omega
  · rcases hx y k hk with ⟨p, hp, _, _⟩ | ⟨_, h1⟩
    · exact h.offR p k hp
    · have l1 := h.kT.lt
      have l2 := h.kS.lt
      have l3 := h.gr
      exact ⟨by omega, by omega, by omega, by omega⟩
  · refine ⟨hF.os, hF.tape, hF.output, hF.size, fun k hk => ?_⟩
    have h1 := h.base
    have h2 := h.lo.2
    exact hold k (by omega) (by omega) (fun e => by have := ((h.own x).lt k e).1; omega)

/-- only a track's last hold has turned -/
theorem Bd.track (h : Bd B0 W b gR bT bS a len cap gap a' np cap' nc v P last n T R) {W' : World} {x : Int} {t : TrackD} (hF : W.grownBy W' (some bT))
    (hk : KV 3 W' bT (n + 1) (.agg #[.int .i64 0, .int .i64 0, .int .i64 0]) (fun y => if y = x then trackV t else trackV (T y))) :
    Bd B0 W' b gR bT bS a len cap gap a' np cap' nc v P last (n + 1) (fun y => if y = x then t else T y) R ∧ Below B0 W W' := by
  obtain ⟨d1, d2, d3, d4, d5⟩ := h.dist
  have lb := ltCell h.c5
  dsimp only at lb
  have hold : ∀ k, k < W.heap.size → k ≠ bT → W'.heap[k]? = W.heap[k]? := fun k h1 h2 => hF.block k h1 (fun e => h2 (by injection e))
  have hb : W'.heap[b]? = W.heap[b]? := hold b lb d1
  have cb : ∀ o u, W.cell? ⟨b, o, none⟩ = some u → W'.cell? ⟨b, o, none⟩ = some u := fun o u hu => (World.cell?_of_block (w := W) (w' := W') (a := ⟨b, o, none⟩) hb).trans hu
  refine ⟨⟨?_, cb 5 _ h.c5, cb 6 _ h.c6, ?_, ?_, fun y => ?_, h.heap, h.apR, h.apV, h.offR, h.offV, h.dist, h.lo, Nat.lt_of_lt_of_le h.gr hF.size⟩, ?_⟩
  · exact h.lp.keep hb (fun _ => hold gR h.gr d3) (fun j hj k hk => hold k ((h.lp.own j hj).lt k hk).2 (h.offV j hj k hk).1)
  · have e : (fun y => if y = x then trackV t else trackV (T y)) = fun y => trackV (if y = x then t else T y) := by funext y; split <;> rfl
    rw [e] at hk
    exact hk
  · exact (h.kS.same (hold bS h.kS.lt (fun e => d5 e.symm))).mono (by omega)
  · exact ownsRow_same (h.own y) (fun k hk => hold k ((h.own y).lt k hk).2 (h.offR y k hk).2.2.1)
  · refine ⟨hF.os, hF.tape, hF.output, hF.size, fun k hk => ?_⟩
    have h1 := h.base
    have h2 := h.lo.1
    exact hold k (by omega) (by omega)

/-- a leg more in a row -/
theorem Bd.put (h : Bd B0 W b gR bT bS a len cap gap a' np cap' nc v P last n T R) {A W1 : World} (hA : Below W.heap.size W A) {i : Nat} (hi : i < np) {v' : Value} {t : Int}
    (hown1 : W1.ownsRow B0 3 1 v' ((P i).n + 1) (rowCells (P i) ++ [.int .i64 t])) (hgr : A.grownBy W1 (v i).ownBlock) (hloc : v'.ownBlock = (v i).ownBlock ∨ v'.ownBlock = some A.heap.size) :
    Bd B0 ((W1.setCell ⟨gR, i, none⟩ v').setCell ⟨b, 4, none⟩ (.int .i64 t)) b gR bT bS a len cap gap a' np cap' nc (fun j => if j = i then v' else v j) (moreP P i t) t n T R ∧ Below B0 W ((W1.setCell ⟨gR, i, none⟩ v').setCell ⟨b, 4, none⟩ (.int .i64 t)) := by
  obtain ⟨hlp, hbl⟩ := h.lp.put hA hi hown1 hgr hloc
  obtain ⟨d1, d2, d3, d4, d5⟩ := h.dist
  have hL := h.later hA
  have hold : ∀ k, k < A.heap.size → (v i).ownBlock ≠ some k → k ≠ b → k ≠ gR → ((W1.setCell ⟨gR, i, none⟩ v').setCell ⟨b, 4, none⟩ (.int .i64 t)).heap[k]? = A.heap[k]? := fun k h1 h2 h3 h4 =>
    ((Below.heap_setCell _ ⟨b, 4, none⟩ _ k h3).trans (Below.heap_setCell _ ⟨gR, i, none⟩ _ k h4)).trans (hgr.block k h1 (fun e => h2 e.symm))
  have lb := ltCell hL.c5
  dsimp only at lb
  have hbk := hgr.block b lb (fun e => (hL.lp.off i hi).1 e.symm)
  have cb : ∀ o u, o ≠ 4 → A.cell? ⟨b, o, none⟩ = some u → ((W1.setCell ⟨gR, i, none⟩ v').setCell ⟨b, 4, none⟩ (.int .i64 t)).cell? ⟨b, o, none⟩ = some u := fun o u ho hu =>
    (cell_set_ne (fun e => ho e.symm)).trans ((World.cell?_setCell_other _ _ _ _ (by intro e; cases e; exact hL.lp.ne rfl)).trans ((World.cell?_of_block (w := A) (w' := W1) (a := ⟨b, o, none⟩) hbk).trans hu))
  have hsz : A.heap.size ≤ ((W1.setCell ⟨gR, i, none⟩ v').setCell ⟨b, 4, none⟩ (.int .i64 t)).heap.size := by have := hgr.size; simpa using this
  have hv : ∀ j, j < np → ∀ k, (if j = i then v' else v j).ownBlock = some k → (v j).ownBlock = some k ∨ A.heap.size ≤ k := fun j hj k hk => by
    by_cases e : j = i
    · subst e
      rw [if_pos rfl] at hk
      rcases hloc with e2 | e2
      · exact Or.inl (e2.symm.trans hk)
      · rw [e2] at hk; cases hk; exact Or.inr (Nat.le_refl _)
    · rw [if_neg e] at hk; exact Or.inl hk
  refine ⟨⟨hlp, cb 5 _ (by decide) hL.c5, cb 6 _ (by decide) hL.c6, ?_, ?_, fun y => ?_, h.heap, h.apR, fun y j hj => ?_, h.offR, fun j hj k hk => ?_, h.dist, h.lo, Nat.lt_of_lt_of_le hL.gr hsz⟩, hbl⟩
  · exact hL.kT.same (hold bT hL.kT.lt (fun e => (h.offV i hi bT e).1 rfl) (fun e => d1 e.symm) (fun e => d3 e.symm))
  · exact hL.kS.same (hold bS hL.kS.lt (fun e => (h.offV i hi bS e).2 rfl) (fun e => d2 e.symm) (fun e => d4 e.symm))
  · exact ownsRow_same (hL.own y) (fun k hk => hold k ((hL.own y).lt k hk).2 ((h.apV y i hi).ne hk) (h.offR y k hk).1 (h.offR y k hk).2.1)
  · refine Apart.of (fun k hk hk2 => ?_)
    rcases hv j hj k hk2 with h1 | h1
    · exact (h.apV y j hj).ne hk h1
    · have := ((hL.own y).lt k hk).2; omega
  · rcases hv j hj k hk with h1 | h1
    · exact h.offV j hj k h1
    · have l1 := hL.kT.lt; have l2 := hL.kS.lt; exact ⟨by omega, by omega⟩
end
end Go.Proofs.YtelickcfodcmaaaGreatDoor

namespace Go.Proofs.YtelickcfodcmaaaGreatDoor
open Go.RowKit

/-- no station's row lies in this block -/
def NoR (R : Int → RoomD) (k : Nat) : Prop := ∀ y, (rowV (R y)).ownBlock ≠ some k
/-- what a station's step leaves alone, and where its row lies -/
structure RStep (W W' : World) (bS : Nat) (R R' : Int → RoomD) : Prop where
  keep : ∀ k, k < W.heap.size → k ≠ bS → NoR R k → W'.heap[k]? = W.heap[k]?
  noR : ∀ k, k < W.heap.size → NoR R k → NoR R' k
  size : W.heap.size ≤ W'.heap.size
theorem RStep.cell {W W' : World} {bS : Nat} {R R' : Int → RoomD} (h : RStep W W' bS R R') {k o : Nat} {u : Value} (hu : W.cell? ⟨k, o, none⟩ = some u) (h1 : k ≠ bS) (h2 : NoR R k) : W'.cell? ⟨k, o, none⟩ = some u :=
  (World.cell?_of_block (w := W) (w' := W') (a := ⟨k, o, none⟩) (h.keep k (ltCell hu) h1 h2)).trans hu
theorem rstep_of {W W' : World} {bS : Nat} {R : Int → RoomD} {x : Int} {r : RoomD} (hF : RFr W W' (rowV (R x)).ownBlock bS) (hloc : ∀ k, (rowV r).ownBlock = some k → (rowV (R x)).ownBlock = some k ∨ W.heap.size ≤ k) : RStep W W' bS R (fun y => if y = x then r else R y) := by
  refine ⟨fun k h1 h2 h3 => hF.oth k h1 h2 (fun e => h3 x e.symm), fun k h1 h2 y e => ?_, hF.size⟩
  by_cases ey : y = x
  · simp only [if_pos ey] at e
    rcases hloc k e with h3 | h3
    · exact h2 x h3
    · omega
  · simp only [if_neg ey] at e
    exact h2 y e

section
variable {B0 : Nat} {W : World} {b gR bT bS : Nat} {a : Option Addr} {len cap : Nat} {gap : Int} {a' : Option Addr} {np cap' nc : Nat} {v : Nat → Value} {P : Nat → RowD} {last : Int} {n : Nat} {T : Int → TrackD} {R : Int → RoomD}

theorem Bd.nb (h : Bd B0 W b gR bT bS a len cap gap a' np cap' nc v P last n T R) (x : Int) : some b ≠ (rowV (R x)).ownBlock ∧ some bS ≠ (rowV (R x)).ownBlock :=
  ⟨fun e => (h.offR x b e.symm).1 rfl, fun e => (h.offR x bS e.symm).2.2.2 rfl⟩

theorem enterBd (h : Bd B0 W b gR bT bS a len cap gap a' np cap' nc v P last n T R) (q : Nat) (hq : q ≤ 100) (hn : n ≤ 1000) (hE : 0 ≤ (R q).E ∧ (R q).E ≤ 100) :
    Calls Tryz.prog 110 #[.pointer (some ⟨b, 0, none⟩), .int .i64 q] W fun e W' => e = .returned (.tuple #[]) ∧ ∃ r, Bd B0 W' b gR bT bS a len cap gap a' np cap' nc v P last (n + 1) T (fun y => if y = (q : Int) then r else R y) ∧ r.E = (R q).E + 1 ∧ r.ne = (R q).ne ∧ (listE r).Perm (listE (R q)) ∧ Below B0 W W' ∧ RStep W W' bS R (fun y => if y = (q : Int) then r else R y) := by
  refine (enter_any b bS n (fun x => roomV (R x)) q (R q).E (R q).va (R q).vc (R q).ne W hq hn h.c6 h.kS rfl hE).mono ?_
  rintro e W' ⟨rfl, hk, hF⟩
  have hF2 : RFr W W' (rowV (R q)).ownBlock bS := ⟨hF.os, hF.tape, hF.output, hF.size, fun k h1 h2 _ => hF.oth k h1 h2 (fun e => by cases e)⟩
  have hloc : ∀ k, (rowV { R q with E := (R q).E + 1 }).ownBlock = some k → (rowV (R q)).ownBlock = some k ∨ W.heap.size ≤ k := fun k hk => Or.inl hk
  have ho : W'.ownsRow B0 3 1 (rowV { R q with E := (R q).E + 1 }) (R q).ne (numCells (R q).s (R q).ne) := ownsRow_same (h.own q) (fun k hk => hF.oth k ((h.own q).lt k hk).2 (h.offR q k hk).2.2.2 (fun e => by cases e))
  obtain ⟨h1, h2⟩ := h.room (r := { R q with E := (R q).E + 1 }) hF2 hk ho (h.heap q) hloc
  exact ⟨rfl, _, h1, rfl, rfl, List.Perm.refl _, h2, rstep_of hF2 hloc⟩

theorem leaveBd (h : Bd B0 W b gR bT bS a len cap gap a' np cap' nc v P last n T R) (q : Nat) (x : Int) (hq : q ≤ 100) (hn : n ≤ 1000) (hE : 0 ≤ (R q).E ∧ (R q).E ≤ 100) (hne : (R q).ne ≤ 100) :
    Calls Tryz.prog 109 #[.pointer (some ⟨b, 0, none⟩), .int .i64 q, .int .i64 x] W fun e W' => e = .returned (.tuple #[]) ∧ ∃ r, Bd B0 W' b gR bT bS a len cap gap a' np cap' nc v P last (n + 1) T (fun y => if y = (q : Int) then r else R y) ∧ r.E = (R q).E - 1 ∧ r.ne = (R q).ne + 1 ∧ (listE r).Perm (x :: listE (R q)) ∧ Below B0 W W' ∧ RStep W W' bS R (fun y => if y = (q : Int) then r else R y) := by
  refine (leave_any B0 b bS n (fun y => roomV (R y)) q x (R q).E (R q).va (R q).vc (R q).ne (R q).s W hq hn h.base h.c6 h.kS rfl hE (h.nb q).1 (h.nb q).2 hne (h.own q) (h.heap q)).mono ?_
  rintro e W' ⟨rfl, gH, cp, s', hH, hP, hk, ho, hl, hF⟩
  have hloc : ∀ k, (rowV ⟨(R q).E - 1, some ⟨gH, 0, none⟩, cp, (R q).ne + 1, s'⟩).ownBlock = some k → (rowV (R q)).ownBlock = some k ∨ W.heap.size ≤ k := fun k hk => by
    simp only [rowV, Value.ownBlock, Option.some.injEq] at hk
    subst hk
    rcases hl with e | e
    · exact Or.inl e.symm
    · exact Or.inr e
  obtain ⟨h1, h2⟩ := h.room (r := ⟨(R q).E - 1, some ⟨gH, 0, none⟩, cp, (R q).ne + 1, s'⟩) hF hk ho hH hloc
  exact ⟨rfl, _, h1, rfl, rfl, hP, h2, rstep_of hF hloc⟩

theorem stationFreeBd (h : Bd B0 W b gR bT bS a len cap gap a' np cap' nc v P last n T R) (g : Nat → Int) (q : Nat) (t0 : Int) (hq : q < len) (hlen : len ≤ 100) (hn : n ≤ 1000) (hI : IsInts 0 B0 W a len g) (hE : 0 ≤ (R q).E ∧ (R q).E ≤ 100) (hne : (R q).ne ≤ 100) (hs : ∀ x ∈ listE (R q), 0 ≤ x ∧ x ≤ 1000000) :
    Calls Tryz.prog 71 #[.pointer (some ⟨b, 0, none⟩), .int .i64 q, .int .i64 t0] W fun e W' =>
      (e = .returned (.tuple #[.int .i64 0, .bool false]) ∧ g q ≤ (R q).E ∧ Below B0 W W') ∨
      (∃ t r, e = .returned (.tuple #[.int .i64 t, .bool true]) ∧ SF t0 (R q).E (g q) (listE (R q)) t (listE r) ∧ (R q).E + ((listE r).length : Int) < g q ∧ r.E = (R q).E ∧ r.ne ≤ (R q).ne ∧ Bd B0 W' b gR bT bS a len cap gap a' np cap' nc v P last (n + 1) T (fun y => if y = (q : Int) then r else R y) ∧ Below B0 W W' ∧ RStep W W' bS R (fun y => if y = (q : Int) then r else R y)) := by
  refine (stationFree_any B0 b bS n a len cap g (fun y => roomV (R y)) q t0 (R q).E (R q).va (R q).vc (R q).ne (R q).s W hq hlen hn h.lp.l2.c0 hI h.c6 h.kS rfl (h.nb q).1 (h.nb q).2 hE hne (h.own q) (h.heap q) hs).mono ?_
  have hbw : ∀ W', RFr W W' (rowV (R q)).ownBlock bS → Below B0 W W' := fun W' hF => by
    have h1 := h.base
    have h2 := h.lo.2
    exact ⟨hF.os, hF.tape, hF.output, hF.size, fun k hk => hF.oth k (by omega) (by omega) (fun e => by have := ((h.own q).lt k e.symm).1; omega)⟩
  rintro e W' (⟨rfl, hg, hF⟩ | ⟨t, m', s', rfl, hSF, hlt, hH, hm, hk, ho, hF⟩)
  · exact Or.inl ⟨rfl, hg, hbw W' hF⟩
  · have eo : (rowV ⟨(R q).E, (R q).va, (R q).vc, m', s'⟩).ownBlock = (rowV (R q)).ownBlock := by cases hva : (R q).va <;> simp [rowV, hva, Value.ownBlock]
    have hloc : ∀ k, (rowV ⟨(R q).E, (R q).va, (R q).vc, m', s'⟩).ownBlock = some k → (rowV (R q)).ownBlock = some k ∨ W.heap.size ≤ k := fun k hk => Or.inl (eo.symm.trans hk)
    obtain ⟨h1, h2⟩ := h.room (r := ⟨(R q).E, (R q).va, (R q).vc, m', s'⟩) hF hk ho hH hloc
    refine Or.inr ⟨t, ⟨(R q).E, (R q).va, (R q).vc, m', s'⟩, rfl, hSF, ?_, rfl, hm, h1, h2, rstep_of hF hloc⟩
    unfold listE
    rw [elems_len]
    exact hlt
end
end Go.Proofs.YtelickcfodcmaaaGreatDoor

namespace Go.Proofs.YtelickcfodcmaaaGreatDoor
open Go.RowKit

theorem LP.form {B0 : Nat} {W : World} {b gR : Nat} {a : Option Addr} {len cap : Nat} {gap : Int} {a' : Option Addr} {np cap' : Nat} {c : Option Addr} {nc : Nat} {v : Nat → Value} {P : Nat → RowD} {last : Int} (h : LP B0 W b gR a len cap gap a' np cap' c nc v P last) {i : Nat} (hi : i < np) : ∃ lp lpc, v i = .slice lp (P i).n lpc := by
  rcases (h.own i hi).2 with ⟨e0, h0⟩ | ⟨g, cp, cur, e0, _⟩
  · exact ⟨none, 0, by rw [e0, h0]⟩
  · exact ⟨_, _, e0⟩

/-- what a leg begun makes of those that are at the stations for ever -/
def stepE (f : Nat → TrainD) (P : Nat → RowD) (i : Nat) (E : Int → Int) : Int → Int :=
  if (P i).n + 1 < (f i).nl then enterE (if 0 < (P i).n then leaveE E ((f i).leg ((P i).n - 1)).to else E) ((f i).leg (P i).n).to
  else leaveE (enterE (if 0 < (P i).n then leaveE E ((f i).leg ((P i).n - 1)).to else E) ((f i).leg (P i).n).to) ((f i).leg (P i).n).to
/-- and of the ends -/
def stepL (f : Nat → TrainD) (P : Nat → RowD) (i : Nat) (t : Int) (L : Int → List Int) : Int → List Int :=
  if (P i).n + 1 < (f i).nl then (if 0 < (P i).n then leaveL L ((f i).leg ((P i).n - 1)).to t else L)
  else leaveL (if 0 < (P i).n then leaveL L ((f i).leg ((P i).n - 1)).to t else L) ((f i).leg (P i).n).to (t + ((f i).leg (P i).n).run)
structure Rl (R0 R : Int → RoomD) (E : Int → Int) (L : Int → List Int) (c : Nat) : Prop where
  e : ∀ x, (R x).E = E x
  p : ∀ x, (listE (R x)).Perm (L x)
  n : ∀ x, (R x).ne ≤ (R0 x).ne + c
theorem Rl.refl (R : Int → RoomD) : Rl R R (fun y => (R y).E) (fun y => listE (R y)) 0 := ⟨fun _ => rfl, fun _ => List.Perm.refl _, fun _ => Nat.le_refl _⟩
theorem Rl.mono {R0 R : Int → RoomD} {E : Int → Int} {L : Int → List Int} {c c' : Nat} (h : Rl R0 R E L c) (hc : c ≤ c') : Rl R0 R E L c' := ⟨h.e, h.p, fun x => by have := h.n x; omega⟩
theorem Rl.leave {R0 R : Int → RoomD} {E : Int → Int} {L : Int → List Int} {c : Nat} (h : Rl R0 R E L c) {q x : Int} {r : RoomD} (hE : r.E = (R q).E - 1) (hP : (listE r).Perm (x :: listE (R q))) (hn : r.ne = (R q).ne + 1) :
    Rl R0 (fun y => if y = q then r else R y) (leaveE E q) (leaveL L q x) (c + 1) := by
  refine ⟨fun y => ?_, fun y => ?_, fun y => ?_⟩
  · unfold leaveE
    by_cases e : y = q
    · subst e; simp only [if_pos]; rw [hE, h.e]
    · simp only [if_neg e]; exact h.e y
  · unfold leaveL
    by_cases e : y = q
    · subst e; simp only [if_pos]; exact hP.trans ((h.p y).cons x)
    · simp only [if_neg e]; exact h.p y
  · by_cases e : y = q
    · subst e; simp only [if_pos]; rw [hn]; have := h.n y; omega
    · simp only [if_neg e]; have := h.n y; omega
theorem Rl.enter {R0 R : Int → RoomD} {E : Int → Int} {L : Int → List Int} {c : Nat} (h : Rl R0 R E L c) {q : Int} {r : RoomD} (hE : r.E = (R q).E + 1) (hP : (listE r).Perm (listE (R q))) (hn : r.ne = (R q).ne) :
    Rl R0 (fun y => if y = q then r else R y) (enterE E q) L c := by
  refine ⟨fun y => ?_, fun y => ?_, fun y => ?_⟩
  · unfold enterE
    by_cases e : y = q
    · subst e; simp only [if_pos]; rw [hE, h.e]
    · simp only [if_neg e]; exact h.e y
  · by_cases e : y = q
    · subst e; simp only [if_pos]; exact hP.trans (h.p y)
    · simp only [if_neg e]; exact h.p y
  · by_cases e : y = q
    · subst e; simp only [if_pos]; rw [hn]; exact h.n y
    · simp only [if_neg e]; exact h.n y
theorem track_bd {len np : Nat} {g : Nat → Int} {gap : Int} {f : Nat → TrainD} (hR : RightL len np f) (hG : RightG len g gap np f) {i k : Nat} (hi : i < np) (hk : k < (f i).nl) : 0 ≤ trackOf (f i) k ∧ trackOf (f i) k ≤ 12 := by
  have hst := hR.st
  have h1 := hR.to i hi k hk
  have h2 : 0 ≤ cur (f i) k ∧ cur (f i) k < len := by
    cases k with
    | zero => exact hG.frm i hi
    | succ m => exact hR.to i hi m (by omega)
  unfold trackOf
  split <;> omega
theorem cellGrown {W W' : World} {row : Option Nat} {k o : Nat} {u : Value} (hg : W.grownBy W' row) (hne : some k ≠ row) (hc : W.cell? ⟨k, o, none⟩ = some u) : W'.cell? ⟨k, o, none⟩ = some u :=
  (World.cell?_of_block (w := W) (w' := W') (a := ⟨k, o, none⟩) (hg.block k (ltCell hc) hne)).trans hc
theorem cellBelow {W W' : World} {B k o : Nat} {u : Value} (hb : Below B W W') (hk : k < B) (hc : W.cell? ⟨k, o, none⟩ = some u) : W'.cell? ⟨k, o, none⟩ = some u := (hb.cell (p := ⟨k, o, none⟩) hk).trans hc

set_option maxRecDepth 20000 in
set_option maxHeartbeats 16000000 in
theorem begin_any (B0 b gR bT bS : Nat) (a : Option Addr) (len cap : Nat) (g : Nat → Int) (gap : Int) (a' : Option Addr) (np cap' nc : Nat) (f : Nat → TrainD) (v : Nat → Value) (P : Nat → RowD) (last : Int) (n : Nat) (T : Int → TrackD) (R : Int → RoomD) (i : Nat) (t : Int) (w : World)
    (hR : RightL len np f) (hG : RightG len g gap np f) (hi : i < np) (hk : (P i).n < (f i).nl) (ht0 : 0 ≤ t) (ht1 : t ≤ 600000)
    (hE0 : ∀ x, 0 ≤ (R x).E ∧ (R x).E ≤ 90) (hE1 : 0 < (P i).n → 1 ≤ (R ((f i).leg ((P i).n - 1)).to).E) (hne : ∀ x, (R x).ne ≤ 90) (hn9 : n ≤ 900) (hPn : ∀ j, j < np → (P j).n ≤ 10)
    (hB : Bd B0 w b gR bT bS a len cap gap a' np cap' nc v P last n T R) (hT : IsTrains 0 B0 w a' np f) :
    Calls Tryz.prog 72 #[.pointer (some ⟨b, 0, none⟩), .int .i64 i, .int .i64 t] w fun e w' => e = .returned (.tuple #[]) ∧ ∃ v' R' n', n' ≤ n + 4 ∧ Bd B0 w' b gR bT bS a len cap gap a' np cap' nc v' (moreP P i t) t n' (fun y => if y = trackOf (f i) (P i).n then ⟨i, t, t + ((f i).leg (P i).n).run + gap⟩ else T y) R' ∧ Rl R R' (stepE f P i (fun y => (R y).E)) (stepL f P i t (fun y => listE (R y))) 2 ∧ Below B0 w w' := by
  have htr := hR.tr
  have hRi := hR.train i hi
  have hnl := hRi.nl
  have hi' : (i : Int) < (np : Int) := by omega
  have hi0 : (0 : Int) ≤ (i : Int) := by omega
  obtain ⟨lp, lpc, hvf⟩ := hB.lp.form hi
  have x0 := hB.lp.l2.c0
  have x1 := hB.lp.l2.c1
  have x2 := hB.lp.l2.c2
  have x3 := hB.lp.l2.c3
  have hrow := (hB.lp.row i hi).2
  have r0 := hrow.1
  have rz := hrow.2
  rw [hvf] at r0
  obtain ⟨bt, ot, la, lc, rfl, _, hbt, t0, t1, t2, t3, t4, hlg, _⟩ := hT i hi
  have hA1 := b1 w (.cells #[.int .i64 (f i).frm, .int .i64 (f i).ready, .int .i64 (f i).due, .int .i64 (f i).weight, .slice la (f i).nl lc] 72)
  have hTb := Go.heap_alloc_new w (.cells #[.int .i64 (f i).frm, .int .i64 (f i).ready, .int .i64 (f i).due, .int .i64 (f i).weight, .slice la (f i).nl lc] 72)
  have lb := ltCell x3
  have lg := hB.gr
  dsimp only at lb
  go_enter Tryz.func72, Tryz.ntmps72
  go_wp2
  refine nameW fun V hV => ?_
  rw [← hV] at hA1 hTb
  have e0 := cell_of_row V w.heap.size 0 _ _ _ hTb
  have e1 := cell_of_row V w.heap.size 1 _ _ _ hTb
  have e2 := cell_of_row V w.heap.size 2 _ _ _ hTb
  have e3 := cell_of_row V w.heap.size 3 _ _ _ hTb
  have e4 := cell_of_row V w.heap.size 4 _ _ _ hTb
  simp at e0 e1 e2 e3 e4
  clear hV hTb t0 t1 t2 t3 t4 lb lg
  have hBV := hB.later hA1
  obtain ⟨i0, ii, iz0, iz1, iz2⟩ := info_parts Tryz.infoInt
  have lB0 := hBV.base
  have hA9 := Below.join (Below.refl V.heap.size V).drew (Nat.le_refl _) (b1 V.drew (.cells #[.int .i64 t] 3))
  have hLA := hBV.later hA9
  have hownA := hLA.lp.own i hi
  have hnl2 : (P i).n ≤ 10 := by omega
  obtain ⟨v', W1, hap, hown1, hgr1, _, hloc1⟩ := run_append_own_at (P := Tryz.prog) (V.drew.alloc (.cells #[.int .i64 t] 3)) B0 23 23 3 i0 _ 1 8 Tryz.underlying23 ii iz0 iz1 iz2 rfl (by decide) (v i) (P i).n (rowCells (P i)) hownA ⟨V.heap.size, 0, none⟩ 1 1 [.int .i64 t] rfl (fun jj u hj => by have h := cells1_lie (W := V.drew) (x := .int .i64 t) (t := 3) jj u hj; exact h) one1 (by unfold maxLen; omega) (by omega) (by simp; omega)
  obtain ⟨gn, cn, rfl⟩ := Joins.ownsRow_form hown1 (by omega)
  obtain ⟨hput, hputB⟩ := hBV.put hA9 hi hown1 hgr1 hloc1
  have lgA := hLA.gr
  have lbA := ltCell hLA.lp.l2.c4
  dsimp only at lbA
  have hgk := hgr1.block _ lgA (fun e => (hLA.lp.off i hi).2 e.symm)
  have hbk := hgr1.block _ lbA (fun e => (hLA.lp.off i hi).1 e.symm)
  have hvA := (hLA.lp.row i hi).2
  have y3 := hBV.lp.l2.c3
  have yv := (hBV.lp.row i hi).2.1
  have m0 := (World.cell?_of_block (w' := W1) (a := ⟨gR, i, none⟩) hgk).trans hvA.1
  have mz := (World.frozen?_of_block (w' := W1) (a := ⟨gR, i, none⟩) hgk).trans hvA.2
  have m4 := (World.cell?_of_block (w' := W1) (a := ⟨b, 4, none⟩) hbk).trans hLA.lp.l2.c4
  have m3 := (World.cell?_of_block (w' := W1) (a := ⟨b, 3, none⟩) hbk).trans hLA.lp.l2.c3
  have mz4 := (World.frozen?_of_block (w' := W1) (a := ⟨b, 4, none⟩) hbk).trans hLA.lp.z4
  have hneb := hLA.lp.ne
  rw [hvf] at yv hap m0
  have hap' : Hid _ := hap
  have lg9 := hBV.gr
  have lb9 := ltCell y3
  dsimp only at lb9
  have hvX : (v i).ownBlock ≠ some w.heap.size := fun e => by have := ((hB.lp.own i hi).lt _ e).2; omega
  have hXb : w.heap.size ≠ b := by have := ltCell hB.lp.l2.c3; dsimp only at this; omega
  have hXg : w.heap.size ≠ gR := by have := hB.gr; omega
  have hAc : ∀ o u, V.cell? ⟨w.heap.size, o, none⟩ = some u → ((W1.setCell ⟨gR, i, none⟩ (.slice (some ⟨gn, 0, none⟩) ((P i).n + 1) cn)).setCell ⟨b, 4, none⟩ (.int .i64 t)).cell? ⟨w.heap.size, o, none⟩ = some u := fun o u hu => by
    rw [World.cell?_setCell_other _ _ _ _ (by intro e; cases e; exact hXb rfl), World.cell?_setCell_other _ _ _ _ (by intro e; cases e; exact hXg rfl)]
    exact cellGrown hgr1 (fun e => hvX e.symm) (cellLater hA9 hu)
  clear hap hown1 hgr1 hloc1 hgk hbk hvA hrow r0 rz x0 x1 x2 x3
  go_cut [7] (fun v wc => v = .int .i64 (P i).n ∧ wc = W1.setCell ⟨gR, i, none⟩ (.slice (some ⟨gn, 0, none⟩) ((P i).n + 1) cn))
  case first =>
    go_region_law (refine step_append_eq _ (by rfl) _ _ _ (by rfl) _ _ _ _ (by rfl) (by rfl) hap'.out ?_)
    all_goals
      go_wp2
      go_meet
      case rel => exact ⟨rfl, rfl⟩
  case rest =>
    obtain ⟨rfl, hwc⟩ := hcut
    subst hwc
    clear hap' y3 yv
    go_wp2
    refine nameW fun W4 hW4 => ?_
    rw [← hW4] at hput hputB hAc
    clear hW4 m0 mz m4 m3 mz4
    have d0 := hAc 0 _ e0
    have d1 := hAc 1 _ e1
    have d2 := hAc 2 _ e2
    have d3 := hAc 3 _ e3
    have d4 := hAc 4 _ e4
    have hb4 : Below B0 w W4 := (hA1.mono hB.base).trans hputB
    have hbase4 := hput.base
    have hlg4 : IsLegs 0 W4.heap.size W4 la (f i).nl (f i).leg := (hlg.below hb4 (Nat.le_refl _)).mono (Nat.le_refl 0) hbase4
    have hDr : Below W4.heap.size W4 W4.drew := (Below.refl _ _).drew
    have hTk := trackOf_any (f i) (P i).n la lc W4.drew hk hnl (hlg4.grow hDr)
    obtain ⟨bl, ol, rfl, _, hbl, g0, g1, g2⟩ := hlg (P i).n hk
    have q0 := cellBelow hb4 hbl g0
    have q1 := cellBelow hb4 hbl g1
    have q5 := hput.c5
    have qg := hput.lp.l2.c1
    obtain ⟨r0, r1, r2, r3⟩ := hRi.leg (P i).n hk
    have gp0 := hG.g0
    have gp1 := hG.g1
    have hk0 : (0 : Int) ≤ ((P i).n : Int) := by omega
    have hk' : ((P i).n : Int) < ((f i).nl : Int) := by omega
    have hw1 : IntKind.i64.wrap (t + ((f i).leg (P i).n).run) = t + ((f i).leg (P i).n).run := by rw [IntKind.wrap_i64]; omega
    have hw2 : IntKind.i64.wrap (t + ((f i).leg (P i).n).run + gap) = t + ((f i).leg (P i).n).run + gap := by rw [IntKind.wrap_i64]; omega
    have htkb := track_bd hR hG hi hk
    have hwf := wf_small (x := trackOf (f i) (P i).n) (by omega) (by omega)
    have hXT : (some w.heap.size : Option Nat) ≠ some bT := fun e => by have := hB.kT.lt; injection e with e; omega
    have hbT : (some b : Option Nat) ≠ some bT := fun e => hB.dist.1 (by injection e)
    have hlT : (some bl : Option Nat) ≠ some bT := fun e => by have := hB.lo.1; injection e with e; omega
    clear hA1 hA9 hLA hownA hBV e0 e1 e2 e3 e4 hAc lgA lbA hneb lg9 lb9 hvX
    go_region_held3 (fun w' => w'.cell? ⟨w.heap.size, 0, none⟩ = some (.int .i64 (f i).frm) ∧ w'.cell? ⟨w.heap.size, 1, none⟩ = some (.int .i64 (f i).ready) ∧ w'.cell? ⟨w.heap.size, 2, none⟩ = some (.int .i64 (f i).due) ∧ w'.cell? ⟨w.heap.size, 3, none⟩ = some (.int .i64 (f i).weight) ∧ w'.cell? ⟨w.heap.size, 4, none⟩ = some (.slice (some ⟨bl, ol, none⟩) (f i).nl lc) ∧ w'.cell? ⟨b, 5, none⟩ = some (.map (some bT)) ∧ w'.cell? ⟨b, 1, none⟩ = some (.int .i64 gap) ∧ w'.cell? ⟨bl, ol + (P i).n * 3 + 1, none⟩ = some (.int .i64 ((f i).leg (P i).n).run)) (first | go_keep | (go_split_ands; refine ⟨?_, ?_, ?_, ?_, ?_, ?_, ?_, ?_⟩ <;> exact cellLater hB5 (by assumption)) | (go_split_ands; refine ⟨?_, ?_, ?_, ?_, ?_, ?_, ?_, ?_⟩ <;> exact cellGrown hgr6 (by assumption) (by assumption))) ((go_at_call 57; refine hTk.mono ?_; rintro _ w5 ⟨rfl, hB5⟩; obtain ⟨W6, hup, hK6, hgr6⟩ := ((hput.kT.later hDr).later hB5).update Tryz.underlying3 Tryz.underlying87 (by unfold maxLen; omega) hwf (.agg #[.int .i64 i, .int .i64 t, .int .i64 (t + ((f i).leg (P i).n).run + gap)])))
    obtain ⟨hB6, hbl6⟩ := ((hput.later hDr).later hB5).track (x := trackOf (f i) (P i).n) (t := ⟨i, t, t + ((f i).leg (P i).n).run + gap⟩) hgr6 hK6
    have hBW6 : Below B0 w W6 := (hb4.trans ((hDr.mono hbase4).trans (hB5.mono hbase4))).trans hbl6
    have hNX : NoR R w.heap.size := fun y e => by have := ((hB.own y).lt _ e).2; omega
    have hXS : w.heap.size ≠ bS := by have := hB.kS.lt; omega
    have z0 := cellGrown hgr6 hXT (cellLater hB5 (W := W4.drew) d0)
    have z1 := cellGrown hgr6 hXT (cellLater hB5 (W := W4.drew) d1)
    have z2 := cellGrown hgr6 hXT (cellLater hB5 (W := W4.drew) d2)
    have z3 := cellGrown hgr6 hXT (cellLater hB5 (W := W4.drew) d3)
    have z4 := cellGrown hgr6 hXT (cellLater hB5 (W := W4.drew) d4)
    obtain ⟨to0, to1⟩ := hR.to i hi (P i).n hk
    obtain ⟨q, hq⟩ : ∃ q : Nat, ((f i).leg (P i).n).to = (q : Int) := ⟨((f i).leg (P i).n).to.toNat, by omega⟩
    have hst := hR.st
    rw [hq] at g0 to1
    have hq' : Hid _ := hq
    clear hq to0
    have hq1 : q ≤ 100 := by omega
    have hX6 : w.heap.size < W6.heap.size := ltCell z0
    have hn10 : ∀ j, j < np → (moreP P i t j).n ≤ 10 := fun j hj => by
      by_cases e : j = i
      · subst e; rw [moreP_n]; omega
      · rw [moreP_other e]; exact hPn j hj
    have hmb : moreB np f (moreP P i t) (i : Int) = decide ((P i).n + 1 < (f i).nl) := by
      unfold moreB
      have e1 : inB (i : Int) 0 ((np : Int) - 1) = true := decide_eq_true ⟨by omega, by omega⟩
      rw [e1, Int.toNat_natCast, moreP_n]
      rfl
    have hrl0 := Rl.refl R
    clear hput hputB hup hK6 hgr6 hB5 hDr d0 d1 d2 d3 d4 q5 qg hTk hlg4 hwf htkb hXT hbT hlT hw1 hw2 q0 q1 hb4 hbase4 hbl6
    by_cases hn0 : 0 < (P i).n
    · have hn0' : (0 : Int) < ((P i).n : Int) := by omega
      have hcur : cur (f i) (P i).n = ((f i).leg ((P i).n - 1)).to := by
        obtain ⟨e, he⟩ : ∃ e, (P i).n = e + 1 := ⟨(P i).n - 1, by omega⟩
        rw [he]; rfl
      obtain ⟨pt0, pt1⟩ := hR.to i hi ((P i).n - 1) (by omega)
      obtain ⟨p, hp⟩ : ∃ p : Nat, ((f i).leg ((P i).n - 1)).to = (p : Int) := ⟨((f i).leg ((P i).n - 1)).to.toNat, by omega⟩
      have hlg6 : IsLegs 0 W6.heap.size W6 (some ⟨bl, ol, none⟩) (f i).nl (f i).leg := (hlg.below hBW6 (Nat.le_refl _)).mono (Nat.le_refl 0) hB6.base
      have hAh := ahead_any (f i) (P i).n (some ⟨bl, ol, none⟩) lc W6 (Nat.le_of_lt hk) hnl hlg6
      rw [hcur, hp] at hAh
      have hE1p := hE1 hn0
      rw [hp] at hE1p
      have hE0p := hE0 (p : Int)
      go_wp2_with (first | (go_at_call 93; refine hAh.mono ?_; rintro _ w7 ⟨rfl, hB7⟩; have hBd7 := hB6.later hB7; have hBW7 := hBW6.trans (hB7.mono hB6.base); replace z0 := cellLater hB7 z0; replace z1 := cellLater hB7 z1; replace z2 := cellLater hB7 z2; replace z3 := cellLater hB7 z3; replace z4 := cellLater hB7 z4; replace hX6 := Nat.lt_of_lt_of_le hX6 hB7.size) | (go_at_call 109; refine (leaveBd hBd7 p t (by omega) (by omega) (by omega) (by have := hne (p : Int); omega)).mono ?_; rintro _ w8 ⟨rfl, r1, hBd8, hr1E, hr1n, hr1P, hbl8, hst8⟩; have hBW8 := hBW7.trans hbl8; replace z0 := hst8.cell z0 hXS hNX; replace z1 := hst8.cell z1 hXS hNX; replace z2 := hst8.cell z2 hXS hNX; replace z3 := hst8.cell z3 hXS hNX; replace z4 := hst8.cell z4 hXS hNX; have hNX8 := hst8.noR _ hX6 hNX; replace hX6 := Nat.lt_of_lt_of_le hX6 hst8.size; have hrl8 := hrl0.leave hr1E hr1P hr1n; have k0 := cellBelow hBW8 hbl g0; clear hst8 hbl8 hBW7 hBd7 hB7 hAh) | fail)
      have hE8 : ∀ x, 0 ≤ leaveE (fun y => (R y).E) (p : Int) x ∧ leaveE (fun y => (R y).E) (p : Int) x ≤ 90 := fun x => by
        unfold leaveE
        have h1 := hE0 x
        by_cases e : x = (p : Int)
        · subst e; rw [if_pos rfl]; dsimp only; omega
        · rw [if_neg e]; exact h1
      by_cases hlast : (P i).n + 1 < (f i).nl
      · have hmv : moreB np f (moreP P i t) (i : Int) = true := by rw [hmb]; exact decide_eq_true hlast
        have hcv : Hid (stepE f P i (fun y => (R y).E) = enterE (leaveE (fun y => (R y).E) (p : Int)) (q : Int) ∧ stepL f P i t (fun y => listE (R y)) = leaveL (fun y => listE (R y)) (p : Int) t) := by
          unfold Hid stepE stepL
          rw [if_pos hlast, if_pos hlast, if_pos hn0, if_pos hn0, hp, hq'.out]
          exact ⟨rfl, rfl⟩
        clear hmb
        go_wp2_with (first | (go_at_call 110; refine (enterBd hBd8 q hq1 (by omega) (by rw [hrl8.e]; have := hE8 (q : Int); omega)).mono ?_; rintro _ w9 ⟨rfl, r2, hBd9, hr2E, hr2n, hr2P, hbl9, hst9⟩; have hBW9 := hBW8.trans hbl9; replace z0 := hst9.cell z0 hXS hNX8; replace z1 := hst9.cell z1 hXS hNX8; replace z2 := hst9.cell z2 hXS hNX8; replace z3 := hst9.cell z3 hXS hNX8; replace z4 := hst9.cell z4 hXS hNX8; have hNX9 := hst9.noR _ hX6 hNX8; replace hX6 := Nat.lt_of_lt_of_le hX6 hst9.size; have hrl9 := hrl8.enter hr2E hr2P hr2n; replace k0 := cellBelow hBW9 hbl g0; clear hst9 hbl9) | (go_at_call 69; refine (hasNext_any b a len cap gap (some ⟨bt, ot, none⟩) np cap' f (some ⟨gR, 0, none⟩) nc (moreP P i t) t (i : Int) w9 hR hBd9.lp.l2 ((hT.below hBW9 (Nat.le_refl _)).mono (Nat.le_refl 0) hBd9.base) (hBd9.lp.rows hn10)).mono ?_; rw [hmv]; rintro _ w10 ⟨rfl, q10, hw10⟩; have hB10 : Below w9.heap.size w9 w10 := (by rw [hw10]; exact below_drewN (Below.refl _ _) _); clear hw10))
        go_end0
        refine ⟨rfl, _, _, _, by omega, hBd9.later hB10, ?_, hBW9.trans (hB10.mono hBd9.base)⟩
        rw [hcv.out.1, hcv.out.2]
        exact hrl9.mono (by omega)
      · have hmv : moreB np f (moreP P i t) (i : Int) = false := by rw [hmb]; exact decide_eq_false hlast
        have hcv : Hid (stepE f P i (fun y => (R y).E) = leaveE (enterE (leaveE (fun y => (R y).E) (p : Int)) (q : Int)) (q : Int) ∧ stepL f P i t (fun y => listE (R y)) = leaveL (leaveL (fun y => listE (R y)) (p : Int) t) (q : Int) (t + ((f i).leg (P i).n).run)) := by
          unfold Hid stepE stepL
          rw [if_neg hlast, if_neg hlast, if_pos hn0, if_pos hn0, hp, hq'.out]
          exact ⟨rfl, rfl⟩
        clear hmb
        go_wp2_with (first | (go_at_call 110; refine (enterBd hBd8 q hq1 (by omega) (by rw [hrl8.e]; have := hE8 (q : Int); omega)).mono ?_; rintro _ w9 ⟨rfl, r2, hBd9, hr2E, hr2n, hr2P, hbl9, hst9⟩; have hBW9 := hBW8.trans hbl9; replace z0 := hst9.cell z0 hXS hNX8; replace z1 := hst9.cell z1 hXS hNX8; replace z2 := hst9.cell z2 hXS hNX8; replace z3 := hst9.cell z3 hXS hNX8; replace z4 := hst9.cell z4 hXS hNX8; have hNX9 := hst9.noR _ hX6 hNX8; replace hX6 := Nat.lt_of_lt_of_le hX6 hst9.size; have hrl9 := hrl8.enter hr2E hr2P hr2n; replace k0 := cellBelow hBW9 hbl g0; clear hst9 hbl9) | (go_at_call 69; refine (hasNext_any b a len cap gap (some ⟨bt, ot, none⟩) np cap' f (some ⟨gR, 0, none⟩) nc (moreP P i t) t (i : Int) w9 hR hBd9.lp.l2 ((hT.below hBW9 (Nat.le_refl _)).mono (Nat.le_refl 0) hBd9.base) (hBd9.lp.rows hn10)).mono ?_; rw [hmv]; rintro _ w10 ⟨rfl, q10, hw10⟩; have hB10 : Below w9.heap.size w9 w10 := (by rw [hw10]; exact below_drewN (Below.refl _ _) _); clear hw10))
        have hBd10 := hBd9.later hB10
        have hBW10 := hBW9.trans (hB10.mono hBd9.base)
        replace z0 := cellLater hB10 z0
        replace z1 := cellLater hB10 z1
        replace z2 := cellLater hB10 z2
        replace z3 := cellLater hB10 z3
        replace z4 := cellLater hB10 z4
        replace k0 := cellLater hB10 k0
        clear hBd9 hBd8 hr2E hr2n hr2P
        generalize (fun y => if y = (q : Int) then r2 else (if y = (p : Int) then r1 else R y)) = R2 at hBd10 hrl9 hNX9
        have rr := (hBd10.lp.row i hi).2.1
        simp only [if_pos] at rr
        obtain ⟨bp, op, sp, spc, ec, _, _, p0, hin, _⟩ := (hBd10.lp.rows hn10) i hi
        simp only [Option.some.injEq, Addr.mk.injEq] at ec
        obtain ⟨rfl, rfl, _⟩ := ec
        rw [Nat.zero_add] at p0
        have esp := rr.symm.trans p0
        simp only [Option.some.injEq, Value.slice.injEq] at esp
        obtain ⟨rfl, hxx, rfl⟩ := esp
        clear hxx rr p0
        have rr := (hBd10.lp.row i hi).2.1
        simp only [if_pos] at rr
        rw [moreP_n] at hin
        have hlg10 : IsLegs 0 w10.heap.size w10 (some ⟨bl, ol, none⟩) (f i).nl (f i).leg := (hlg.below hBW10 (Nat.le_refl _)).mono (Nat.le_refl 0) hBd10.base
        have hDr : Below w10.heap.size w10 w10.drew := (Below.refl _ _).drew
        have hEn := end_any (f i) (P i).n (some ⟨bl, ol, none⟩) lc (moreP P i t i).s (some ⟨gn, 0, none⟩) cn w10.drew hk hRi (by rw [moreP_new]; omega) (by rw [moreP_new]; omega) (hlg10.grow hDr) (hin.grow hDr)
        rw [moreP_new] at hEn
        have c3 := hBd10.lp.l2.c3
        have hbS : b ≠ bS := hBd10.dist.2.1
        have hgS : gR ≠ bS := hBd10.dist.2.2.2.1
        have hlS : bl ≠ bS := by have := hBd10.lo.2; omega
        have hNb : NoR R2 b := fun y e => (hBd10.offR y b e).1 rfl
        have hNg : NoR R2 gR := fun y e => (hBd10.offR y gR e).2.1 rfl
        have hNl : NoR R2 bl := fun y e => by have := ((hBd10.own y).lt bl e).1; omega
        have hE9 := hrl9.e (q : Int)
        have hE9b : 0 ≤ enterE (leaveE (fun y => (R y).E) (p : Int)) (q : Int) (q : Int) ∧ enterE (leaveE (fun y => (R y).E) (p : Int)) (q : Int) (q : Int) ≤ 91 := by
          unfold enterE
          rw [if_pos rfl]
          have := hE8 (q : Int)
          (try dsimp only at this ⊢)
          omega
        have hn9q := hrl9.n (q : Int)
        have hneq := hne (q : Int)
        have hk0 : (0 : Int) ≤ ((P i).n : Int) := by omega
        have hqE : Hid (0 ≤ (R2 (q : Int)).E ∧ (R2 (q : Int)).E ≤ 100) := by unfold Hid; rw [hE9]; omega
        have hqN : Hid ((R2 (q : Int)).ne ≤ 100) := Nat.le_trans hn9q (by omega)
        clear hin hlg10 hE0 hE1 hne hE8 hE9 hn9q hE9b hneq
        go_region_held3 (fun w' => w'.cell? ⟨w.heap.size, 0, none⟩ = some (.int .i64 (f i).frm) ∧ w'.cell? ⟨w.heap.size, 1, none⟩ = some (.int .i64 (f i).ready) ∧ w'.cell? ⟨w.heap.size, 2, none⟩ = some (.int .i64 (f i).due) ∧ w'.cell? ⟨w.heap.size, 3, none⟩ = some (.int .i64 (f i).weight) ∧ w'.cell? ⟨w.heap.size, 4, none⟩ = some (.slice (some ⟨bl, ol, none⟩) (f i).nl lc) ∧ w'.cell? ⟨b, 3, none⟩ = some (.slice (some ⟨gR, 0, none⟩) np nc) ∧ w'.cell? ⟨gR, i, none⟩ = some (.slice (some ⟨gn, 0, none⟩) ((P i).n + 1) cn) ∧ w'.cell? ⟨bl, ol + (P i).n * 3, none⟩ = some (.int .i64 (q : Int))) (first | (go_split_ands; refine ⟨?_, ?_, ?_, ?_, ?_, ?_, ?_, ?_⟩ <;> exact cellLater hB11 (by assumption)) | (go_split_ands; refine ⟨?_, ?_, ?_, ?_, ?_, ?_, ?_, ?_⟩ <;> exact hst12.cell (by assumption) (by assumption) (by assumption)) | (go_split_ands; refine ⟨?_, ?_, ?_, ?_, ?_, ?_, ?_, ?_⟩ <;> exact cellLater hDr (by assumption)) | go_keep) ((first | (go_at_call 39; refine hEn.mono ?_; rintro _ w11 ⟨rfl, hB11⟩) | (go_at_call 109; refine (leaveBd ((hBd10.later hDr).later hB11) q (t + ((f i).leg (P i).n).run) hq1 (by omega) hqE.out hqN.out).mono ?_; rintro _ w12 ⟨rfl, r3, hBd12, hr3E, hr3n, hr3P, hbl12, hst12⟩)))
        go_wp2
        go_end0
        refine ⟨rfl, _, _, _, by omega, hBd12, ?_, (hBW10.trans ((hDr.mono hBd10.base).trans (hB11.mono hBd10.base))).trans hbl12⟩
        rw [hcv.out.1, hcv.out.2]
        exact (hrl9.leave hr3E hr3P hr3n).mono (by omega)
    · have hn0' : ¬ ((0 : Int) < ((P i).n : Int)) := by omega
      have hrl8 := hrl0
      have hNX8 := hNX
      have hBd8 := hB6
      have hBW8 := hBW6
      have k0 := cellBelow hBW8 hbl g0
      have hE8 : ∀ x, 0 ≤ (fun y => (R y).E) x ∧ (fun y => (R y).E) x ≤ 90 := fun x => hE0 x
      by_cases hlast : (P i).n + 1 < (f i).nl
      · have hmv : moreB np f (moreP P i t) (i : Int) = true := by rw [hmb]; exact decide_eq_true hlast
        have hcv : Hid (stepE f P i (fun y => (R y).E) = enterE (fun y => (R y).E) (q : Int) ∧ stepL f P i t (fun y => listE (R y)) = fun y => listE (R y)) := by
          unfold Hid stepE stepL
          rw [if_pos hlast, if_pos hlast, if_neg hn0, if_neg hn0, hq'.out]
          exact ⟨rfl, rfl⟩
        clear hmb
        go_wp2_with (first | (go_at_call 110; refine (enterBd hBd8 q hq1 (by omega) (by rw [hrl8.e]; have := hE8 (q : Int); omega)).mono ?_; rintro _ w9 ⟨rfl, r2, hBd9, hr2E, hr2n, hr2P, hbl9, hst9⟩; have hBW9 := hBW8.trans hbl9; replace z0 := hst9.cell z0 hXS hNX8; replace z1 := hst9.cell z1 hXS hNX8; replace z2 := hst9.cell z2 hXS hNX8; replace z3 := hst9.cell z3 hXS hNX8; replace z4 := hst9.cell z4 hXS hNX8; have hNX9 := hst9.noR _ hX6 hNX8; replace hX6 := Nat.lt_of_lt_of_le hX6 hst9.size; have hrl9 := hrl8.enter hr2E hr2P hr2n; replace k0 := cellBelow hBW9 hbl g0; clear hst9 hbl9) | (go_at_call 69; refine (hasNext_any b a len cap gap (some ⟨bt, ot, none⟩) np cap' f (some ⟨gR, 0, none⟩) nc (moreP P i t) t (i : Int) w9 hR hBd9.lp.l2 ((hT.below hBW9 (Nat.le_refl _)).mono (Nat.le_refl 0) hBd9.base) (hBd9.lp.rows hn10)).mono ?_; rw [hmv]; rintro _ w10 ⟨rfl, q10, hw10⟩; have hB10 : Below w9.heap.size w9 w10 := (by rw [hw10]; exact below_drewN (Below.refl _ _) _); clear hw10))
        go_end0
        refine ⟨rfl, _, _, _, by omega, hBd9.later hB10, ?_, hBW9.trans (hB10.mono hBd9.base)⟩
        rw [hcv.out.1, hcv.out.2]
        exact hrl9.mono (by omega)
      · have hmv : moreB np f (moreP P i t) (i : Int) = false := by rw [hmb]; exact decide_eq_false hlast
        have hcv : Hid (stepE f P i (fun y => (R y).E) = leaveE (enterE (fun y => (R y).E) (q : Int)) (q : Int) ∧ stepL f P i t (fun y => listE (R y)) = leaveL (fun y => listE (R y)) (q : Int) (t + ((f i).leg (P i).n).run)) := by
          unfold Hid stepE stepL
          rw [if_neg hlast, if_neg hlast, if_neg hn0, if_neg hn0, hq'.out]
          exact ⟨rfl, rfl⟩
        clear hmb
        go_wp2_with (first | (go_at_call 110; refine (enterBd hBd8 q hq1 (by omega) (by rw [hrl8.e]; have := hE8 (q : Int); omega)).mono ?_; rintro _ w9 ⟨rfl, r2, hBd9, hr2E, hr2n, hr2P, hbl9, hst9⟩; have hBW9 := hBW8.trans hbl9; replace z0 := hst9.cell z0 hXS hNX8; replace z1 := hst9.cell z1 hXS hNX8; replace z2 := hst9.cell z2 hXS hNX8; replace z3 := hst9.cell z3 hXS hNX8; replace z4 := hst9.cell z4 hXS hNX8; have hNX9 := hst9.noR _ hX6 hNX8; replace hX6 := Nat.lt_of_lt_of_le hX6 hst9.size; have hrl9 := hrl8.enter hr2E hr2P hr2n; replace k0 := cellBelow hBW9 hbl g0; clear hst9 hbl9) | (go_at_call 69; refine (hasNext_any b a len cap gap (some ⟨bt, ot, none⟩) np cap' f (some ⟨gR, 0, none⟩) nc (moreP P i t) t (i : Int) w9 hR hBd9.lp.l2 ((hT.below hBW9 (Nat.le_refl _)).mono (Nat.le_refl 0) hBd9.base) (hBd9.lp.rows hn10)).mono ?_; rw [hmv]; rintro _ w10 ⟨rfl, q10, hw10⟩; have hB10 : Below w9.heap.size w9 w10 := (by rw [hw10]; exact below_drewN (Below.refl _ _) _); clear hw10))
        have hBd10 := hBd9.later hB10
        have hBW10 := hBW9.trans (hB10.mono hBd9.base)
        replace z0 := cellLater hB10 z0
        replace z1 := cellLater hB10 z1
        replace z2 := cellLater hB10 z2
        replace z3 := cellLater hB10 z3
        replace z4 := cellLater hB10 z4
        replace k0 := cellLater hB10 k0
        clear hBd9 hBd8 hr2E hr2n hr2P
        generalize (fun y => if y = (q : Int) then r2 else R y) = R2 at hBd10 hrl9 hNX9
        have rr := (hBd10.lp.row i hi).2.1
        simp only [if_pos] at rr
        obtain ⟨bp, op, sp, spc, ec, _, _, p0, hin, _⟩ := (hBd10.lp.rows hn10) i hi
        simp only [Option.some.injEq, Addr.mk.injEq] at ec
        obtain ⟨rfl, rfl, _⟩ := ec
        rw [Nat.zero_add] at p0
        have esp := rr.symm.trans p0
        simp only [Option.some.injEq, Value.slice.injEq] at esp
        obtain ⟨rfl, hxx, rfl⟩ := esp
        clear hxx rr p0
        have rr := (hBd10.lp.row i hi).2.1
        simp only [if_pos] at rr
        rw [moreP_n] at hin
        have hlg10 : IsLegs 0 w10.heap.size w10 (some ⟨bl, ol, none⟩) (f i).nl (f i).leg := (hlg.below hBW10 (Nat.le_refl _)).mono (Nat.le_refl 0) hBd10.base
        have hDr : Below w10.heap.size w10 w10.drew := (Below.refl _ _).drew
        have hEn := end_any (f i) (P i).n (some ⟨bl, ol, none⟩) lc (moreP P i t i).s (some ⟨gn, 0, none⟩) cn w10.drew hk hRi (by rw [moreP_new]; omega) (by rw [moreP_new]; omega) (hlg10.grow hDr) (hin.grow hDr)
        rw [moreP_new] at hEn
        have c3 := hBd10.lp.l2.c3
        have hbS : b ≠ bS := hBd10.dist.2.1
        have hgS : gR ≠ bS := hBd10.dist.2.2.2.1
        have hlS : bl ≠ bS := by have := hBd10.lo.2; omega
        have hNb : NoR R2 b := fun y e => (hBd10.offR y b e).1 rfl
        have hNg : NoR R2 gR := fun y e => (hBd10.offR y gR e).2.1 rfl
        have hNl : NoR R2 bl := fun y e => by have := ((hBd10.own y).lt bl e).1; omega
        have hE9 := hrl9.e (q : Int)
        have hE9b : 0 ≤ enterE (fun y => (R y).E) (q : Int) (q : Int) ∧ enterE (fun y => (R y).E) (q : Int) (q : Int) ≤ 91 := by
          unfold enterE
          rw [if_pos rfl]
          have := hE8 (q : Int)
          (try dsimp only at this ⊢)
          omega
        have hn9q := hrl9.n (q : Int)
        have hneq := hne (q : Int)
        have hk0 : (0 : Int) ≤ ((P i).n : Int) := by omega
        have hqE : Hid (0 ≤ (R2 (q : Int)).E ∧ (R2 (q : Int)).E ≤ 100) := by unfold Hid; rw [hE9]; omega
        have hqN : Hid ((R2 (q : Int)).ne ≤ 100) := Nat.le_trans hn9q (by omega)
        clear hin hlg10 hE0 hE1 hne hE8 hE9 hn9q hE9b hneq
        go_region_held3 (fun w' => w'.cell? ⟨w.heap.size, 0, none⟩ = some (.int .i64 (f i).frm) ∧ w'.cell? ⟨w.heap.size, 1, none⟩ = some (.int .i64 (f i).ready) ∧ w'.cell? ⟨w.heap.size, 2, none⟩ = some (.int .i64 (f i).due) ∧ w'.cell? ⟨w.heap.size, 3, none⟩ = some (.int .i64 (f i).weight) ∧ w'.cell? ⟨w.heap.size, 4, none⟩ = some (.slice (some ⟨bl, ol, none⟩) (f i).nl lc) ∧ w'.cell? ⟨b, 3, none⟩ = some (.slice (some ⟨gR, 0, none⟩) np nc) ∧ w'.cell? ⟨gR, i, none⟩ = some (.slice (some ⟨gn, 0, none⟩) ((P i).n + 1) cn) ∧ w'.cell? ⟨bl, ol + (P i).n * 3, none⟩ = some (.int .i64 (q : Int))) (first | (go_split_ands; refine ⟨?_, ?_, ?_, ?_, ?_, ?_, ?_, ?_⟩ <;> exact cellLater hB11 (by assumption)) | (go_split_ands; refine ⟨?_, ?_, ?_, ?_, ?_, ?_, ?_, ?_⟩ <;> exact hst12.cell (by assumption) (by assumption) (by assumption)) | (go_split_ands; refine ⟨?_, ?_, ?_, ?_, ?_, ?_, ?_, ?_⟩ <;> exact cellLater hDr (by assumption)) | go_keep) ((first | (go_at_call 39; refine hEn.mono ?_; rintro _ w11 ⟨rfl, hB11⟩) | (go_at_call 109; refine (leaveBd ((hBd10.later hDr).later hB11) q (t + ((f i).leg (P i).n).run) hq1 (by omega) hqE.out hqN.out).mono ?_; rintro _ w12 ⟨rfl, r3, hBd12, hr3E, hr3n, hr3P, hbl12, hst12⟩)))
        go_wp2
        go_end0
        refine ⟨rfl, _, _, _, by omega, hBd12, ?_, (hBW10.trans ((hDr.mono hBd10.base).trans (hB11.mono hBd10.base))).trans hbl12⟩
        rw [hcv.out.1, hcv.out.2]
        exact (hrl9.leave hr3E hr3P hr3n).mono (by omega)
end Go.Proofs.YtelickcfodcmaaaGreatDoor
