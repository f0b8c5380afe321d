/-
  each over legs; how long the legs take; when a train is at its end.
-/
import Derived.Test.YtafbnkhdfnnpmaaDoorSum
import Derived.Test.YtafbnkhdfnnpmaaDoorImplL
import Derived.Test.YtafbnkhdfnnpmaaDoorImplK
import Derived.Test.YtafbnkhdfnnpmaaDoorRight
import Derived.Deep.RegionHeld3
namespace Go.Proofs.YtafbnkhdfnnpmaaDoor
open Go.RowKit Go.Shelf

section
attribute [local go_sem] Oper.semAt_some

set_option maxRecDepth 100000 in
set_option maxHeartbeats 4000000 in
/-- each's closure over trains: for every loop body that keeps what lay below n₀; fnum: the function that makes a number of a train. -/
theorem eachL_in (F : Fence) (n : Nat) (h48 : F.fn 58) (fnum : Nat) (hfn : F.fn fnum) (hro : F.round = none) (hn : 1 ≤ n) (l Bl Bf n₀ : Nat) (a : Option Addr) (len cap : Nat) (f : Nat → LegD) (g : Nat → Int) (hreach : len ≤ 1048576)
    (henter : ∀ args w, (callFunc fnum args).run Tryd.prog w = .ok (.enter fnum args) w)
    (hnum : ∀ j, j < len → ∀ (W : World), CallsIn F (n - 1) Tryd.prog fnum #[.agg #[.int .i64 (f j).to, .int .i64 (f j).run, .int .i64 (f j).stay]] W fun e W' => e = .returned (.int .i64 (g j)) ∧ Below W.heap.size W W')
    (J Jx : List Int → World → Prop) (W : World) (hJ : AbidesFrom W.heap.size J)
    (hY : ∀ pre x W, J pre W → pre.length < len → YieldAt F (n - 1) Tryd.prog l #[.int .i64 x] W fun e W' =>
      (e = .returned (.bool true) ∧ J (pre ++ [x]) W' ∧ Below n₀ W W') ∨ (e = .returned (.bool false) ∧ Jx (pre ++ [x]) W'))
    (hBl : W.cell? ⟨Bl, 0, none⟩ = some (.slice a len cap)) (hBf : W.cell? ⟨Bf, 0, none⟩ = some (.func (.func fnum) #[] #[])) (hf0 : Bf < n₀) (hn0 : n₀ ≤ W.heap.size) (hT : IsLegs 0 n₀ W a len f) (h0 : J [] W) :
    CallsIn F n Tryd.prog 58 #[.func (.yield l) #[] #[], .pointer (some ⟨Bl, 0, none⟩), .pointer (some ⟨Bf, 0, none⟩)] W fun e W' => (∃ v, e = .returned v) ∧
      ((∃ ys, ys = upto g len ∧ J ys W') ∨ (∃ pre, (∃ k, k ≤ len ∧ pre = upto g k) ∧ Jx pre W')) := by
  refine callsIn_of_wp Tryd.func58 rfl h48 ?_ hro
  simp only [Tryd.ntmps58, List.size_toArray, List.length_cons, List.length_nil, Nat.reduceAdd, Nat.reduceSub, Array.replicate_succ, Array.replicate_zero, List.push_toArray, List.append_toArray, List.nil_append, List.cons_append]
  gi_wp2
  gi_loopw [8] (fun i wr => ∃ k : Nat, k ≤ len ∧ i = .int .i64 k ∧ J (upto g k) wr ∧ Below n₀ W wr) (fun i _ => len - (intOf i).toNat)
  case atStart => exact ⟨0, Nat.zero_le _, rfl, h0, Below.refl _ _⟩
  case round =>
    obtain ⟨k, hk, rfl, hJs, hnx⟩ := hrel
    by_cases hlt : k < len
    · obtain ⟨b, off, rfl, _, hb, c0, c1, c2⟩ := (hT.below hnx (Nat.le_refl _)) k hlt
      have hfx : wr.cell? ⟨Bf, 0, none⟩ = some (.func (.func fnum) #[] #[]) := (hnx.cell (p := ⟨Bf, 0, none⟩) hf0).trans hBf
      have hlw : Bf < wr.heap.size := ltCell hfx
      have hcall := hnum k hlt (wr.alloc (.cells #[.int .i64 (f k).to, .int .i64 (f k).run, .int .i64 (f k).stay] 70))
      gi_wp2
      refine hcall.mono ?_
      rintro e W2 ⟨rfl, hB2⟩
      have hBw : Below wr.heap.size wr W2 := Below.join (b1 wr _) (Nat.le_refl _) hB2
      have hJ2 : J (upto g k) W2 := hJ _ wr W2 none hJs (grownOf hBw) (fun r e => by cases e)
      obtain ⟨fn, tmps, assign, body, hy, hR⟩ := hY _ (g k) W2 hJ2 (by rw [upto_length]; exact hlt)
      gi_wp2
      refine hR.mono ?_
      rintro e W3 (⟨rfl, hJ3, hk3⟩ | ⟨rfl, hJx3⟩)
      · gi_wp2
        go_roundw
        case rel => exact ⟨k + 1, by omega, by go_num, by rw [upto_succ]; exact hJ3, (hnx.trans (hBw.mono (Nat.le_trans hn0 hnx.size))).trans hk3⟩
        case measure => simp [intOf]; omega
      · gi_wp2
        refine bodyPost_ret (results_none rfl _ _ _) rfl ?_
        exact ⟨⟨_, rfl⟩, .inr ⟨_, ⟨k + 1, by omega, (upto_succ _ _).symm⟩, hJx3⟩⟩
    · obtain rfl : k = len := by omega
      gi_wp2
      go_end0
      exact ⟨⟨_, rfl⟩, .inl ⟨_, rfl, hJs⟩⟩

theorem eachL_stops (F : Fence) (n : Nat) (h48 : F.fn 58) (fnum : Nat) (hfn : F.fn fnum) (hro : F.round = none) (hn : 1 ≤ n) (Bl Bf : Nat) (a : Option Addr) (len cap : Nat) (f : Nat → LegD) (g : Nat → Int) (hreach : len ≤ 1048576)
    (henter : ∀ args w, (callFunc fnum args).run Tryd.prog w = .ok (.enter fnum args) w)
    (hnum : ∀ j, j < len → ∀ (W : World), CallsIn F (n - 1) Tryd.prog fnum #[.agg #[.int .i64 (f j).to, .int .i64 (f j).run, .int .i64 (f j).stay]] W fun e W' => e = .returned (.int .i64 (g j)) ∧ Below W.heap.size W W')
    (w : World) (hBl : w.cell? ⟨Bl, 0, none⟩ = some (.slice a len cap)) (hBf : w.cell? ⟨Bf, 0, none⟩ = some (.func (.func fnum) #[] #[])) (hT : IsLegs 0 w.heap.size w a len f) :
    SeqStopsK F n Tryd.prog 58 #[.pointer (some ⟨Bl, 0, none⟩), .pointer (some ⟨Bf, 0, none⟩)] (fun x : Int => #[Value.int .i64 x]) (Below w.heap.size) (fun ys => ys = upto g len) (fun pre => ∃ k, k ≤ len ∧ pre = upto g k) len w := fun l J Jx W hW hJ _ hY h0 =>
  eachL_in F n h48 fnum hfn hro hn l Bl Bf w.heap.size a len cap f g hreach henter hnum J Jx W hJ hY (cellLater hW hBl) (cellLater hW hBf) (ltCell hBf) hW.size (hT.below hW (Nat.le_refl _)) h0

set_option maxHeartbeats 1000000 in
theorem eachL_any (a : Option Addr) (len cap : Nat) (v : Nat) (w : World) :
    Calls Tryd.prog 46 #[.slice a len cap, .func (.func v) #[] #[]] w fun e w' => e = .returned (.func (.func 58) #[] #[.pointer (some ⟨w.heap.size, 0, none⟩), .pointer (some ⟨w.heap.size + 1, 0, none⟩)]) ∧ w' = (w.alloc (.cells #[.slice a len cap] 43)).alloc (.cells #[.func (.func v) #[] #[]] 88) := by
  go_enter Tryd.func46, Tryd.ntmps46
  go_wp2
  go_ret
  exact ⟨rfl, rfl⟩

end

theorem legTicks_any (x y z : Int) (w : World) (h0 : 1 ≤ y) (h1 : y ≤ 10000) (h2 : 0 ≤ z) (h3 : z ≤ 10000) :
    Calls Tryd.prog 47 #[.agg #[.int .i64 x, .int .i64 y, .int .i64 z]] w fun e w' => e = .returned (.int .i64 (z + y)) ∧ Below w.heap.size w w' := by
  go_enter Tryd.func47, Tryd.ntmps47
  go_wp2
  go_ret
  exact ⟨rfl, b1 _ _⟩

theorem sumW_ticks (t : TrainD) (hR : RightT t) : ∀ k, k ≤ t.nl → sumW (upto (fun j => (t.leg j).stay + (t.leg j).run) k) = ticks t k
  | 0, _ => by simp [upto, sumW, ticks]
  | k + 1, hk => by
    rw [upto_succ, sumW_snoc, sumW_ticks t hR k (by omega)]
    have h1 := ticks_bd hR k (by omega)
    have h2 := hR.leg k (by omega)
    have h3 := hR.nl
    have hw : wrap64 (ticks t k + ((t.leg k).stay + (t.leg k).run)) = ticks t k + ((t.leg k).stay + (t.leg k).run) := by unfold wrap64; omega
    rw [hw]; rfl

theorem sumTicks_any (t : TrainD) (hR : RightT t) (la : Option Addr) (lc : Nat) (Bl Bf : Nat) (w : World) (hBl : w.cell? ⟨Bl, 0, none⟩ = some (.slice la t.nl lc)) (hBf : w.cell? ⟨Bf, 0, none⟩ = some (.func (.func 47) #[] #[])) (hL : IsLegs 0 w.heap.size w la t.nl t.leg) :
    Calls Tryd.prog 33 #[.func (.func 58) #[] #[.pointer (some ⟨Bl, 0, none⟩), .pointer (some ⟨Bf, 0, none⟩)]] w fun e w' => e = .returned (.int .i64 (ticks t t.nl)) ∧ Below w.heap.size w w' := by
  have hn := hR.nl
  have h : Calls Tryd.prog 33 #[.func (.func 58) #[] #[.pointer (some ⟨Bl, 0, none⟩), .pointer (some ⟨Bf, 0, none⟩)]] w fun e w' => e = .returned (.int .i64 (sumW (upto (fun j => (t.leg j).stay + (t.leg j).run) t.nl))) ∧ Below w.heap.size w w' :=
    callsIn_wide.1 (sum_in Fence.wide 6 trivial 58 trivial rfl (by omega) _ (enters_of Tryd.func58 (by kernel_rfl) rfl) _ _ t.nl w
      (eachL_stops Fence.wide 5 trivial 47 trivial rfl (by omega) Bl Bf la t.nl lc t.leg (fun j => (t.leg j).stay + (t.leg j).run) (by omega) (enters_of Tryd.func47 (by kernel_rfl) rfl) (fun j hj W => callsIn_wide.2 (by
        obtain ⟨l0, l1, l2, l3⟩ := hR.leg j hj
        exact legTicks_any _ _ _ W l0 l1 l2 l3)) w hBl hBf hL))
  rw [sumW_ticks t hR t.nl (Nat.le_refl _)] at h
  exact h

theorem sumTicks_at (t : TrainD) (hR : RightT t) (la : Option Addr) (lc : Nat) (o : Obj) (w : World) (hL : IsLegs 0 w.heap.size w la t.nl t.leg) :
    Calls Tryd.prog 33 #[.func (.func 58) #[] #[.pointer (some ⟨w.heap.size + 1, 0, none⟩), .pointer (some ⟨w.heap.size + 1 + 1, 0, none⟩)]] (((w.alloc o).alloc (.cells #[.slice la t.nl lc] 43)).alloc (.cells #[.func (.func 47) #[] #[]] 88)).drew
      fun e w' => e = .returned (.int .i64 (ticks t t.nl)) ∧ Below (((w.alloc o).alloc (.cells #[.slice la t.nl lc] 43)).alloc (.cells #[.func (.func 47) #[] #[]] 88)).drew.heap.size (((w.alloc o).alloc (.cells #[.slice la t.nl lc] 43)).alloc (.cells #[.func (.func 47) #[] #[]] 88)).drew w' :=
  sumTicks_any t hR la lc (w.heap.size + 1) (w.heap.size + 1 + 1) _ (by rw [World.cell?_drew, World.cell?_alloc_lt _ _ ⟨w.heap.size + 1, 0, none⟩ (by simp), World.cell?_alloc_at _ _ _ _ (by simp)]; rfl) (by rw [World.cell?_drew, World.cell?_alloc_at _ _ _ _ (by simp)]; rfl) (hL.grow (b3 _ _ _ _).drew)

set_option maxHeartbeats 2000000 in
theorem endAlone_any (t : TrainD) (la : Option Addr) (lc : Nat) (w : World) (hR : RightT t) (hL : IsLegs 0 w.heap.size w la t.nl t.leg) :
    Calls Tryd.prog 31 #[.agg #[.int .i64 t.frm, .int .i64 t.ready, .int .i64 t.due, .int .i64 t.weight, .slice la t.nl lc]] w fun e w' => e = .returned (.int .i64 (endOf t)) ∧ Below w.heap.size w w' := by
  have hr0 := hR.r0
  have hr1 := hR.r1
  have hn := hR.nl
  obtain ⟨k0, k1⟩ := ticks_bd hR t.nl (Nat.le_refl _)
  have k2 : ticks t t.nl ≤ 200000 := by omega
  clear k1
  go_enter Tryd.func31, Tryd.ntmps31
  go_wp2
  go_region_held3 (fun w' => w'.cell? ⟨w.heap.size, 1, none⟩ = some (.int .i64 t.ready) ∧ w'.cell? ⟨w.heap.size, 4, none⟩ = some (.slice la t.nl lc)) (first | go_keep | (go_split_ands; refine ⟨?_, ?_⟩ <;> exact cellLater (b2 _ _ _) (by assumption)) | (go_split_ands; refine ⟨?_, ?_⟩ <;> exact cellLater hB3 (by assumption))) ((first | (go_at_call 46; refine (eachL_any _ _ _ _ _).mono ?_; rintro e w2 ⟨rfl, rfl⟩) | (go_at_call 33; refine (sumTicks_at t hR _ _ _ _ hL).mono ?_; rintro e w3 ⟨rfl, hB3⟩)))
  have hw : IntKind.i64.wrap (t.ready + ticks t t.nl) = endOf t := by rw [IntKind.wrap_i64]; unfold endOf; omega
  rw [hw]
  go_wp2
  go_ret
  exact ⟨rfl, Below.join (b3 _ _ _ _).drew (Nat.le_refl _) hB3⟩

theorem lateness_any (t : TrainD) (e : Int) (la : Option Addr) (lc : Nat) (w : World) (hR : RightT t) (h0 : 0 ≤ e) (h1 : e ≤ 300000) :
    Calls Tryd.prog 49 #[.agg #[.int .i64 t.frm, .int .i64 t.ready, .int .i64 t.due, .int .i64 t.weight, .slice la t.nl lc], .int .i64 e] w fun ev w' => ev = .returned (.int .i64 (lateOf t e)) ∧ Below w.heap.size w w' := by
  have hd0 := hR.d0
  have hd1 := hR.d1
  have hw0 := hR.w0
  have hw1 := hR.w1
  obtain ⟨lb0, lb1⟩ := lateOf_bd hR h0 h1
  by_cases hc : e ≤ t.due
  · have hL : lateOf t e = 0 := by unfold lateOf; rw [if_pos hc]
    rw [hL]
    clear hL lb0 lb1
    go_enter Tryd.func49, Tryd.ntmps49
    go_wp2
    go_ret
    exact ⟨rfl, b1 _ _⟩
  · have hL : lateOf t e = t.weight * (e - t.due) := by unfold lateOf; rw [if_neg hc]
    rw [hL] at lb0 lb1 ⊢
    clear hL
    go_enter Tryd.func49, Tryd.ntmps49
    go_wp2
    go_ret
    exact ⟨rfl, b1 _ _⟩
end Go.Proofs.YtafbnkhdfnnpmaaDoor
