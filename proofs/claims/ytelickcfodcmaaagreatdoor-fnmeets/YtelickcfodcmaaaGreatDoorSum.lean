/-
  each and sum: a list gone through by one number of each of its elements; the sum of what comes.
-/
import Derived.RangeFuncNested
import Derived.RangeFuncBound
import Derived.RangeFuncCalls
import Derived.RangeFuncLeaves
import Derived.Shelf.Abstract
import Derived.Shelf.RegionOpen
import Derived.WalkKit
import Derived.OwnWalkIn
import Derived.TacticsInMore
import Derived.LoopNIn
import Derived.LoopIn
import Derived.Test.YtelickcfodcmaaaGreatDoorPlain
namespace Go.Proofs.YtelickcfodcmaaaGreatDoor
open Go.RowKit Go.Shelf

attribute [local go_sem] Oper.semAt_some

def upto (f : Nat → Int) (k : Nat) : List Int := (List.range k).map f
theorem upto_succ (f : Nat → Int) (k : Nat) : upto f (k + 1) = upto f k ++ [f k] := by simp [upto, List.range_succ]
theorem upto_length (f : Nat → Int) (k : Nat) : (upto f k).length = k := by simp [upto]
theorem grownOf {W W' : World} (h : Below W.heap.size W W') : W.grownBy W' none := ⟨h.os, h.tape, h.output, h.size, fun k hk _ => h.block k hk⟩

set_option maxRecDepth 100000 in
set_option maxHeartbeats 4000000 in
/-- each's closure over trains: for every loop body that keeps what lay below n₀; fnum: the function that makes a number of a train. -/
theorem eachT_in (F : Fence) (n : Nat) (h48 : F.fn 87) (fnum : Nat) (hfn : F.fn fnum) (hro : F.round = none) (hn : 1 ≤ n) (l Bl Bf n₀ : Nat) (a : Option Addr) (len cap : Nat) (f : Nat → TrainD) (g : Nat → Int) (hreach : len ≤ 1048576)
    (henter : ∀ args w, (callFunc fnum args).run Tryz.prog w = .ok (.enter fnum args) w)
    (hnum : ∀ j, j < len → ∀ (la : Option Addr) (lc : Nat) (W : World), IsLegs 0 W.heap.size W la (f j).nl (f j).leg → CallsIn F (n - 1) Tryz.prog fnum #[.agg #[.int .i64 (f j).frm, .int .i64 (f j).ready, .int .i64 (f j).due, .int .i64 (f j).weight, .slice la (f j).nl lc]] W fun e W' => e = .returned (.int .i64 (g j)) ∧ Below W.heap.size W W')
    (J Jx : List Int → World → Prop) (W : World) (hJ : AbidesFrom W.heap.size J)
    (hY : ∀ pre x W, J pre W → pre.length < len → YieldAt F (n - 1) Tryz.prog l #[.int .i64 x] W fun e W' =>
      (e = .returned (.bool true) ∧ J (pre ++ [x]) W' ∧ Below n₀ W W') ∨ (e = .returned (.bool false) ∧ Jx (pre ++ [x]) W'))
    (hBl : W.cell? ⟨Bl, 0, none⟩ = some (.slice a len cap)) (hBf : W.cell? ⟨Bf, 0, none⟩ = some (.func (.func fnum) #[] #[])) (hf0 : Bf < n₀) (hn0 : n₀ ≤ W.heap.size) (hT : IsTrains 0 n₀ W a len f) (h0 : J [] W) :
    CallsIn F n Tryz.prog 87 #[.func (.yield l) #[] #[], .pointer (some ⟨Bl, 0, none⟩), .pointer (some ⟨Bf, 0, none⟩)] W fun e W' => (∃ v, e = .returned v) ∧
      ((∃ ys, ys = upto g len ∧ J ys W') ∨ (∃ pre, (∃ k, k ≤ len ∧ pre = upto g k) ∧ Jx pre W')) := by
  refine callsIn_of_wp Tryz.func87 rfl h48 ?_ hro
  simp only [Tryz.ntmps87, List.size_toArray, List.length_cons, List.length_nil, Nat.reduceAdd, Nat.reduceSub, Array.replicate_succ, Array.replicate_zero, List.push_toArray, List.append_toArray, List.nil_append, List.cons_append]
  gi_wp2
  gi_loopw [8] (fun i wr => ∃ k : Nat, k ≤ len ∧ i = .int .i64 k ∧ J (upto g k) wr ∧ Below n₀ W wr) (fun i _ => len - (intOf i).toNat)
  case atStart => exact ⟨0, Nat.zero_le _, rfl, h0, Below.refl _ _⟩
  case round =>
    obtain ⟨k, hk, rfl, hJs, hnx⟩ := hrel
    by_cases hlt : k < len
    · obtain ⟨b, off, la, lc, rfl, _, hb, c0, c1, c2, c3, c4, hlg, hm'⟩ := (hT.below hnx (Nat.le_refl _)) k hlt
      have hfx : wr.cell? ⟨Bf, 0, none⟩ = some (.func (.func fnum) #[] #[]) := (hnx.cell (p := ⟨Bf, 0, none⟩) hf0).trans hBf
      have hlw : Bf < wr.heap.size := ltCell hfx
      have hlg' : IsLegs 0 wr.heap.size wr la (f k).nl (f k).leg := hlg.mono (Nat.le_refl _) (Nat.le_trans hn0 hnx.size)
      have hcall := hnum k hlt la lc _ (hlg'.grow (b1 wr (.cells #[.int .i64 (f k).frm, .int .i64 (f k).ready, .int .i64 (f k).due, .int .i64 (f k).weight, .slice la (f k).nl lc] 72)))
      gi_wp2
      refine hcall.mono ?_
      rintro e W2 ⟨rfl, hB2⟩
      have hBw : Below wr.heap.size wr W2 := Below.join (b1 wr _) (Nat.le_refl _) hB2
      have hJ2 : J (upto g k) W2 := hJ _ wr W2 none hJs (grownOf hBw) (fun r e => by cases e)
      obtain ⟨fn, tmps, assign, body, hy, hR⟩ := hY _ (g k) W2 hJ2 (by rw [upto_length]; exact hlt)
      gi_wp2
      refine hR.mono ?_
      rintro e W3 (⟨rfl, hJ3, hk3⟩ | ⟨rfl, hJx3⟩)
      · gi_wp2
        go_roundw
        case rel => exact ⟨k + 1, by omega, by go_num, by rw [upto_succ]; exact hJ3, (hnx.trans (hBw.mono (Nat.le_trans hn0 hnx.size))).trans hk3⟩
        case measure => simp [intOf]; omega
      · gi_wp2
        refine bodyPost_ret (results_none rfl _ _ _) rfl ?_
        exact ⟨⟨_, rfl⟩, .inr ⟨_, ⟨k + 1, by omega, (upto_succ _ _).symm⟩, hJx3⟩⟩
    · obtain rfl : k = len := by omega
      gi_wp2
      go_end0
      exact ⟨⟨_, rfl⟩, .inl ⟨_, rfl, hJs⟩⟩

theorem eachT_stops (F : Fence) (n : Nat) (h48 : F.fn 87) (fnum : Nat) (hfn : F.fn fnum) (hro : F.round = none) (hn : 1 ≤ n) (Bl Bf : Nat) (a : Option Addr) (len cap : Nat) (f : Nat → TrainD) (g : Nat → Int) (hreach : len ≤ 1048576)
    (henter : ∀ args w, (callFunc fnum args).run Tryz.prog w = .ok (.enter fnum args) w)
    (hnum : ∀ j, j < len → ∀ (la : Option Addr) (lc : Nat) (W : World), IsLegs 0 W.heap.size W la (f j).nl (f j).leg → CallsIn F (n - 1) Tryz.prog fnum #[.agg #[.int .i64 (f j).frm, .int .i64 (f j).ready, .int .i64 (f j).due, .int .i64 (f j).weight, .slice la (f j).nl lc]] W fun e W' => e = .returned (.int .i64 (g j)) ∧ Below W.heap.size W W')
    (w : World) (hBl : w.cell? ⟨Bl, 0, none⟩ = some (.slice a len cap)) (hBf : w.cell? ⟨Bf, 0, none⟩ = some (.func (.func fnum) #[] #[])) (hT : IsTrains 0 w.heap.size w a len f) :
    SeqStopsK F n Tryz.prog 87 #[.pointer (some ⟨Bl, 0, none⟩), .pointer (some ⟨Bf, 0, none⟩)] (fun x : Int => #[Value.int .i64 x]) (Below w.heap.size) (fun ys => ys = upto g len) (fun pre => ∃ k, k ≤ len ∧ pre = upto g k) len w := fun l J Jx W hW hJ _ hY h0 =>
  eachT_in F n h48 fnum hfn hro hn l Bl Bf w.heap.size a len cap f g hreach henter hnum J Jx W hJ hY (cellLater hW hBl) (cellLater hW hBf) (ltCell hBf) hW.size (hT.below hW (Nat.le_refl _)) h0

set_option maxHeartbeats 1000000 in
theorem eachT_any (a : Option Addr) (len cap : Nat) (v : Nat) (w : World) :
    Calls Tryz.prog 50 #[.slice a len cap, .func (.func v) #[] #[]] w fun e w' => e = .returned (.func (.func 87) #[] #[.pointer (some ⟨w.heap.size, 0, none⟩), .pointer (some ⟨w.heap.size + 1, 0, none⟩)]) ∧ w' = (w.alloc (.cells #[.slice a len cap] 24)).alloc (.cells #[.func (.func v) #[] #[]] 102) := by
  go_enter Tryz.func50, Tryz.ntmps50
  go_wp2
  go_ret
  exact ⟨rfl, rfl⟩

def sumW : List Int → Int := List.foldl (fun s v => wrap64 (s + v)) 0
theorem sumW_snoc (pre : List Int) (x : Int) : sumW (pre ++ [x]) = wrap64 (sumW pre + x) := by simp [sumW]

set_option maxRecDepth 100000 in
set_option maxHeartbeats 4000000 in
/-- sum: of whatever iterator value that gives the numbers ys and keeps what lay. -/
theorem sum_in (F : Fence) (n : Nat) (h33 : F.fn 49) (gf : Nat) (hgf : F.fn gf) (hro : F.round = none) (hn : 3 ≤ n) (lb : Array Value) (heg : ∀ args w, (callFunc gf args).run Tryz.prog w = .ok (.enter gf args) w) (zs : List Int) (Sp : List Int → Prop) (N : Nat) (w : World)
    (hseq : SeqStopsK F (n - 1) Tryz.prog gf lb (fun x : Int => #[Value.int .i64 x]) (Below w.heap.size) (fun ys => ys = zs) Sp N w) :
    CallsIn F n Tryz.prog 49 #[.func (.func gf) #[] lb] w fun e W' => e = .returned (.int .i64 (sumW zs)) ∧ Below w.heap.size w W' := by
  have h1 : 1 ≤ n := by omega
  refine callsIn_of_wp_marks Tryz.func49 rfl h33 ?_ hro
  simp only [Tryz.ntmps49, List.size_toArray, List.length_cons, List.length_nil, Nat.reduceAdd, Nat.reduceSub, Array.replicate_succ, Array.replicate_zero, List.push_toArray, List.append_toArray, List.nil_append, List.cons_append]
  gi_wp2
  have bS := Boxed.new w 3 (.int .i64 0)
  have hB0 : Below w.heap.size w (w.alloc (.cells #[.int .i64 0] 3)) := b1 _ _
  refine wpIn_rangeFunc_ownG hro h1 (gf := gf) (lb := lb) rfl hgf heg hseq belowK_t (belowK_b (by simp)) hB0 (fun _ => rfl)
    (fun pre W => (W.cell? ⟨w.heap.size, 0, none⟩ = some (.int .i64 (sumW pre)) ∧ W.frozen? ⟨w.heap.size, 0, none⟩ = false) ∧ Below w.heap.size w W)
    (fun _ _ _ => False)
    (OwnFrom.and (Own.from (fun s A B row hs hg hr => ⟨cell_kept hs.1 hg hr, (frozen_kept hs.1 hg hr).trans hs.2⟩) _) (ownFrom_below (Nat.le_refl _) (by simp)))
    (fun _ _ _ _ _ hs _ _ => hs)
    ⟨⟨bS.cell, bS.frozen⟩, hB0⟩
    (fun x => { tmps := #[.func (.func gf) #[] lb, undef, .int .i64 0, .pointer (some ⟨w.heap.size, 0, none⟩), .int .i64 x, .func (.func gf) #[] lb, .int .i64 x, undef, undef, undef, undef], defers := [] }) ?assign ?body ?done ?stop
  case assign =>
    intro l x W K hK
    gi_wp2
    exact hK
  case body =>
    rintro l pre x W ⟨⟨hc, hf⟩, hB⟩ _
    gi_wp2
    exact ⟨(KeepsOthers.setCell _ _ _).from _, (Below.refl w.heap.size W).setCell (p := ⟨w.heap.size, 0, none⟩) (Nat.le_refl _) _, ⟨by rw [sumW_snoc]; exact World.cell?_setCell_same' _ _ _ (by rw [hc]; rfl), by rw [World.frozen?_setCell]; exact hf⟩, hB.setCell (p := ⟨w.heap.size, 0, none⟩) (Nat.le_refl _) _⟩
  case done =>
    rintro D ys W hD rfl ⟨⟨hc, _⟩, hB⟩ hK
    gi_wp2
    refine ⟨by simp, .inl ⟨_, _, rfl, run_takeDeferred hK, ?_⟩⟩
    exact ⟨_, results_tmp rfl _ _ _, rfl, hB.trans (belowK_b (w := w) (Nat.le_refl _) W D _ _ (by simp at hD; omega) hK rfl rfl)⟩
  case stop =>
    rintro D c pre W _ _ h _
    exact h.elim
end Go.Proofs.YtelickcfodcmaaaGreatDoor
