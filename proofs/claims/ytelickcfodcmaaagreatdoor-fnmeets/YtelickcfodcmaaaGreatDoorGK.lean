/-
  The bound of a new board: each train as if alone.
  The program's Solve, where each train can go as if alone.
-/
import Derived.Test.YtelickcfodcmaaaGreatDoorGE
import Derived.Test.YtelickcfodcmaaaGreatDoorGD
import Derived.Test.YtelickcfodcmaaaGreatDoorGG
import Derived.Test.YtelickcfodcmaaaGreatDoorGB
import Derived.Laws.Cover3
import Derived.Test.YtelickcfodcmaaaGreatDoorGH
namespace Go.Proofs.YtelickcfodcmaaaGreatDoor
open Go.RowKit

theorem lon_ready (t : TrainD) (k : Nat) : readyR t (lonS t) k = lonS t k := by
  cases k with
  | zero => simp only [readyR, lonS, ticks]; omega
  | succ k => rw [lonS_succ]; rfl
theorem rowCells_succ (m : Nat) (s : Nat → Int) : rowCells ⟨m + 1, s⟩ = rowCells ⟨m, s⟩ ++ [.int .i64 (s m)] := by
  unfold rowCells; rw [List.range_succ, List.map_append]; rfl
theorem rowInts {B0 : Nat} {W : World} {v : Value} {n : Nat} {s : Nat → Int} (h : W.ownsRow B0 3 1 v n (rowCells ⟨n, s⟩)) : ∃ a cap, v = .slice a n cap ∧ IsInts 0 W.heap.size W a n s := by
  rcases h.2 with ⟨rfl, h0⟩ | ⟨g, cap, cur, rfl, hb, hg, _⟩
  · exact ⟨none, 0, by rw [h0], fun j hj => by omega⟩
  · refine ⟨_, cap, rfl, fun j hj => ⟨g, 0, rfl, Nat.zero_le _, (World.ownsRow.lt h g rfl).2, ?_⟩⟩
    rw [Nat.zero_add, World.ownsRow.cellAt h _ (by omega)]
    exact rowCells_at _ _ hj
section
variable {q o : Nat} {wr : World} {P : Nat → RowD} {j : Nat} {vS : Value} {v : Nat → Value}
theorem PutR.stepN {W1 W2 : World} {vN v' : Value} {ob : Obj} {R : RowD} (h : PutR q o wr P j vS v) (hB1 : Below wr.heap.size wr W1) (hrow : W1.ownsRow (q + 1) 3 1 vN R.n (rowCells R)) (hnew : ∀ x, vN.ownBlock = some x → vS.ownBlock ≠ some x ∧ ∀ k, k < j → (v k).ownBlock ≠ some x)
    (ho : W2.ownsRow (q + 1) 23 1 v' (j + 1) ((List.range j).map v ++ [vN])) (hg : (W1.alloc ob).grownBy W2 vS.ownBlock) (hloc : v'.ownBlock = vS.ownBlock ∨ v'.ownBlock = some (W1.alloc ob).heap.size) :
    PutR q o (W2.setCell ⟨q, o, none⟩ v') (fun k => if k = j then R else P k) (j + 1) v' (fun k => if k = j then vN else v k) ∧ W2.cell? ⟨q, o, none⟩ = some vS ∧ W2.frozen? ⟨q, o, none⟩ = false ∧ ∀ x, x < wr.heap.size → vS.ownBlock ≠ some x → W2.heap[x]? = wr.heap[x]? := by
  have hB := Below.join hB1 (Nat.le_refl _) (b1 W1 ob)
  have hs1 := hB1.size
  have lq : q < wr.heap.size := ltCell h.c
  have hsz : (W1.alloc ob).heap.size = W1.heap.size + 1 := World.size_alloc ..
  have hkeep : ∀ x, x < W1.heap.size + 1 → vS.ownBlock ≠ some x → W2.heap[x]? = (W1.alloc ob).heap[x]? := fun x hx hn => hg.block x (by omega) (fun e => hn e.symm)
  have hqS : vS.ownBlock ≠ some q := fun e => by have := (h.own.lt q e).1; omega
  have hk : W2.heap[q]? = (W1.alloc ob).heap[q]? := hkeep q (by omega) hqS
  have cc : W2.cell? ⟨q, o, none⟩ = some vS := (World.cell?_of_block (w := W1.alloc ob) (w' := W2) (a := ⟨q, o, none⟩) hk).trans (cellLater hB h.c)
  have zz : W2.frozen? ⟨q, o, none⟩ = false := (World.frozen?_of_block (w := W1.alloc ob) (w' := W2) (a := ⟨q, o, none⟩) hk).trans ((hB.frozen (ltCell h.c)).trans h.z)
  have hold : ∀ k, k < j → ∀ x, (v k).ownBlock = some x → q + 1 ≤ x ∧ x < wr.heap.size := fun k hk x hx => (h.rows k hk).lt x hx
  have hnl : ∀ x, vN.ownBlock = some x → q + 1 ≤ x ∧ x < W1.heap.size := fun x hx => hrow.lt x hx
  have hvS : ∀ x, vS.ownBlock = some x → x < wr.heap.size := fun x hx => (h.own.lt x hx).2
  have hv' : ∀ x, v'.ownBlock = some x → vS.ownBlock = some x ∨ x = W1.heap.size + 1 := fun x hx => by
    rcases hloc with e | e
    · exact Or.inl (e.symm.trans hx)
    · rw [e, hsz] at hx; cases hx; exact Or.inr rfl
  have hmap : (List.range (j + 1)).map (fun k => if k = j then vN else v k) = (List.range j).map v ++ [vN] := by
    rw [List.range_succ, List.map_append]
    congr 1
    · apply List.map_congr_left
      intro k hk
      have : k < j := List.mem_range.1 hk
      rw [if_neg (by omega)]
    · simp
  refine ⟨⟨World.cell?_setCell_same _ _ _ cc, by rw [World.frozen?_setCell]; exact zz, ?_, fun k hk => ?_, fun k hk x hx e => ?_, fun k m hk hm hne => ?_⟩, cc, zz, fun x hx hn => (hkeep x (by omega) hn).trans (hB.block x hx)⟩
  · rw [hmap]; exact ownsRow_setCell_below ho (Nat.lt_succ_self _) _
  · refine ownsRow_setCell_below ?_ (Nat.lt_succ_self _) _
    by_cases e : k = j
    · subst e
      rw [if_pos rfl, if_pos rfl]
      exact ownsRow_same (ownsRow_later hrow (b1 W1 ob)) (fun x hx => hkeep x (by have := hnl x hx; omega) (fun e2 => (hnew x hx).1 e2))
    · rw [if_neg e, if_neg e]
      exact ownsRow_same (ownsRow_later (h.rows k (by omega)) hB) (fun x hx => hkeep x (by have := hold k (by omega) x hx; omega) (h.off k (by omega) x hx))
  · rcases hv' x e with e2 | e2
    · by_cases ek : k = j
      · rw [if_pos ek] at hx; exact (hnew x hx).1 e2
      · rw [if_neg ek] at hx; exact h.off k (by omega) x hx e2
    · by_cases ek : k = j
      · rw [if_pos ek] at hx; have := hnl x hx; omega
      · rw [if_neg ek] at hx; have := hold k (by omega) x hx; omega
  · have hap : ∀ p, p < j → ∀ x, (v p).ownBlock = some x → vN.ownBlock ≠ some x := fun p hp x hx e => (hnew x e).2 p hp hx
    by_cases ek : k = j
    · rw [if_pos ek, if_neg (by omega)]
      cases e : vN.ownBlock with
      | none => exact Or.inl e
      | some x => exact Or.inr (fun e2 => hap m (by omega) x (e2.symm.trans e) e)
    · rw [if_neg ek]
      by_cases em : m = j
      · rw [if_pos em]
        cases e : (v k).ownBlock with
        | none => exact Or.inl e
        | some x => exact Or.inr (fun e2 => hap k (by omega) x e (e2.symm.trans e))
      · rw [if_neg em]; exact h.apart k m (by omega) (by omega) hne
end
theorem new5b (w : World) (x y z u r : Value) (t : TypeId) : (w.alloc (.cells #[x, y, z, u, r] t)).cell? ⟨w.heap.size, 0, none⟩ = some x ∧ (w.alloc (.cells #[x, y, z, u, r] t)).cell? ⟨w.heap.size, 1, none⟩ = some y ∧ (w.alloc (.cells #[x, y, z, u, r] t)).cell? ⟨w.heap.size, 2, none⟩ = some z ∧ (w.alloc (.cells #[x, y, z, u, r] t)).cell? ⟨w.heap.size, 3, none⟩ = some u ∧ (w.alloc (.cells #[x, y, z, u, r] t)).cell? ⟨w.heap.size, 4, none⟩ = some r := by simp
set_option maxRecDepth 20000 in
set_option maxHeartbeats 1000000 in
theorem cloneNil (w : World) : Calls Tryz.prog 74 #[.slice none 0 0] w fun e w' => e = .returned (.slice none 0 0) ∧ Below w.heap.size w w' := by
  have hb : ∀ w : World, Sem.run Tryz.prog (binOp .eql 23 (.slice none 0 0) (.slice none 0 0)) w = .ok (.bool true) w := fun w => by simp [binOp, run_equal_slice_nil _ 23 _ none 0 0 Tryz.underlying23, go_sem]
  go_enter Tryz.func74, Tryz.ntmps74
  go_wp2
  go_ret
  exact ⟨rfl, Below.refl _ _⟩
theorem wrap_cost {x y : Int} (h0 : 0 ≤ x) (h1 : x ≤ 150000000) (h2 : 0 ≤ y) (h3 : y ≤ 30000000) : IntKind.i64.wrap (x + y) = x + y := by
  rw [IntKind.wrap_i64]
  omega
theorem lonP_if (f : Nat → TrainD) (i : Nat) : (fun k => if k = i then (⟨(f i).nl, lonS (f i)⟩ : RowD) else lonP f k) = lonP f := by
  funext k
  by_cases e : k = i
  · subst e; rw [if_pos rfl]; rfl
  · rw [if_neg e]
/-- how it stands within bound: the answer's box at block q, i rows of it -/
structure BnI (w : World) (q : Nat) (f : Nat → TrainD) (i : Nat) (vS : Value) (v : Nat → Value) (W : World) : Prop where
  put : PutR q 2 W (lonP f) i vS v
  c0 : W.cell? ⟨q, 0, none⟩ = some (.bool true)
  c1 : W.cell? ⟨q, 1, none⟩ = some (.int .i64 (costSum f i))
  z1 : W.frozen? ⟨q, 1, none⟩ = false
  room : Room w.heap.size 3 W
  below : Below w.heap.size w W
set_option maxRecDepth 20000 in
set_option maxHeartbeats 8000000 in
theorem bound_new (b gR bT : Nat) (len : Nat) (a' : Option Addr) (np cap' : Nat) (f : Nat → TrainD) (w : World) (hR : RightL len np f) (hT : IsTrains 0 w.heap.size w a' np f) (hwf : ∀ i, i < np → ∀ m, m < (f i).nl → (Lit.int .i64 (trackOf (f i) m)).wf = true)
    (x2 : w.cell? ⟨b, 2, none⟩ = some (.slice a' np cap')) (x3 : w.cell? ⟨b, 3, none⟩ = some (.slice (some ⟨gR, 0, none⟩) np np)) (x4 : w.cell? ⟨b, 4, none⟩ = some (.int .i64 0)) (x5 : w.cell? ⟨b, 5, none⟩ = some (.map (some bT))) (hkT : KV 3 w bT 0 (.agg #[.int .i64 0, .int .i64 0, .int .i64 0]) (fun _ => .agg #[.int .i64 0, .int .i64 0, .int .i64 0]))
    (hrow : ∀ j, j < np → w.cell? ⟨gR, j, none⟩ = some (.slice none 0 0)) :
    Calls Tryz.prog 46 #[.pointer (some ⟨b, 0, none⟩)] w fun e w' => (∃ c nc, e = .returned (.agg #[.bool true, .int .i64 (costSum f np), .slice c np nc]) ∧ OwnP w.heap.size w' c np (lonP f)) ∧ Below w.heap.size w w' := by
  have hwf' : Hid _ := hwf
  have hrow' : Hid _ := hrow
  have hnp := hR.tr
  clear hwf hrow
  obtain ⟨i0, ii, iz0, iz1, iz2⟩ := info_parts Tryz.infoInt
  obtain ⟨k0, ki, kz0, kz1, kz2⟩ := info_parts Tryz.infoRow
  have hA1 := b1 w (.cells #[.bool false, .int .i64 0, .slice none 0 0] 47)
  have hA2 := b1 (w.alloc (.cells #[.bool false, .int .i64 0, .slice none 0 0] 47)) (.cells #[.bool true, .int .i64 0, .slice none 0 0] 47)
  have hA := Below.join hA1 (Nat.le_refl _) hA2
  have hI0 : BnI w (w.heap.size + 1) f 0 (.slice none 0 0) (fun _ => .slice none 0 0) ((w.alloc (.cells #[.bool false, .int .i64 0, .slice none 0 0] 47)).alloc (.cells #[.bool true, .int .i64 0, .slice none 0 0] 47)) := by
    have hs : (w.alloc (.cells #[.bool false, .int .i64 0, .slice none 0 0] 47)).heap.size = w.heap.size + 1 := World.size_alloc ..
    refine ⟨PutR.nil _ _ ?_ ?_, ?_, ?_, ?_, (Room.lit w _ _ 3 (Nat.le_refl _)).below hA2 (by omega), hA⟩
    all_goals rw [← hs]
    all_goals simp [costSum]
  have y2 := cellLater hA x2
  obtain ⟨q, hq⟩ : ∃ q, q = w.heap.size + 1 := ⟨_, rfl⟩
  rw [← hq] at hI0
  have hq' : Hid _ := hq
  go_enter Tryz.func46, Tryz.ntmps46
  go_wp2
  rw [← hq]
  clear hA1 hA2 hA y2 hq
  go_loopw [15] (fun c15 wr => ∃ (i : Nat) (vS : Value) (v : Nat → Value), i ≤ np ∧ c15 = .int .i64 i ∧ BnI w q f i vS v wr) (fun c15 _ => np - (intOf c15).toNat)
  case atStart => exact ⟨0, _, _, Nat.zero_le _, rfl, hI0⟩
  case round =>
    clear hI0
    obtain ⟨i, vS, v, hi, rfl, hI⟩ := hrel
    rename World => wo
    by_cases hlt : i < np
    · have hlt' : (i : Int) < (np : Int) := by omega
      have hi0 : (0 : Int) ≤ (i : Int) := by omega
      have hRt := hR.train i hlt
      have hn10 := hRt.nl
      obtain ⟨bt, ot, la, lc, rfl, _, hbt, t0, t1, t2, t3, t4, hlg, hml⟩ := hT i hlt
      have hB := hI.below
      replace t0 := cellLater hB t0
      replace t1 := cellLater hB t1
      replace t2 := cellLater hB t2
      replace t3 := cellLater hB t3
      replace t4 := cellLater hB t4
      have hAt := b1 wo (.cells #[.int .i64 (f i).frm, .int .i64 (f i).ready, .int .i64 (f i).due, .int .i64 (f i).weight, .slice la (f i).nl lc] 72)
      obtain ⟨u0, u1, u2, u3, u4⟩ := new5b wo (.int .i64 (f i).frm) (.int .i64 (f i).ready) (.int .i64 (f i).due) (.int .i64 (f i).weight) (.slice la (f i).nl lc) 72
      have hBA := Below.join hB (Nat.le_refl _) hAt
      have y3 := cellLater hBA x3
      have yr := cellLater hBA (hrow'.out i hlt)
      have hlg' : Hid _ := hlg
      have hI' : Hid _ := hI
      clear hlg hI
      go_wp2_with (go_at_call 74; fail)
      refine (cloneNil _).mono ?_
      rintro _ W ⟨rfl, hBc⟩
      have z0 := cellLater hBc u0
      have z1 := cellLater hBc u1
      have z2 := cellLater hBc u2
      have z3 := cellLater hBc u3
      have z4 := cellLater hBc u4
      have hBW := Below.join hBA (Nat.le_refl _) hBc
      have hAW := Below.join hAt (Nat.le_refl _) hBc
      clear t0 t1 t2 t3 t4 u0 u1 u2 u3 u4 y3 yr hBA hAt hBc
      go_wp2
      have hqw : w.heap.size ≤ q := by have := hq'.out; omega
      have hqw1 : w.heap.size < q := by have := hq'.out; omega
      clear hq'
      have z5 := cellLater hBW x4
      have z6 := cellLater hBW x5
      have hkW := hkT.later hBW
      have hlW : IsLegs 0 W.heap.size W la (f i).nl (f i).leg := IsLegs.grow (W := w) hlg'.out hBW
      have y1 := cellLater hAW hI'.out.c1
      have yz1 : W.frozen? ⟨q, 1, none⟩ = false := (hAW.frozen (ltCell hI'.out.c1)).trans hI'.out.z1
      have lqo : q < wo.heap.size := ltCell hI'.out.c1
      have lWo : wo.heap.size < W.heap.size := ltCell z0
      go_loopw [6, 7] (fun c6 c7 wr => ∃ m : Nat, m ≤ (f i).nl ∧ c7 = .int .i64 m ∧ wr.ownsRow W.heap.size 3 1 c6 m (rowCells ⟨m, lonS (f i)⟩) ∧ Below W.heap.size W wr) (fun _ c7 _ => (f i).nl - (intOf c7).toNat)
      case atStart => exact ⟨0, Nat.zero_le _, rfl, World.ownsRow_nil _ _ _ _, Below.refl _ _⟩
      case round =>
        obtain ⟨m, hm, rfl, hown, hBr⟩ := hrel
        have k4 := cellLater hBr z4
        by_cases hmlt : m < (f i).nl
        · have hmlt' : (m : Int) < ((f i).nl : Int) := by omega
          have hm0 : (0 : Int) ≤ (m : Int) := by omega
          obtain ⟨sa, sc, rfl, hIr⟩ := rowInts hown
          have hD0 : Below W.heap.size W wr.drew := hBr.drew
          have hE0 : Below wr.heap.size wr wr.drew := (Below.refl _ _).drew
          obtain ⟨lb0, lb1⟩ := lonS_bd hRt hmlt
          go_wp2
          clear k4
          refine wp_region_held_drew (S := fun w' => w'.cell? ⟨wo.heap.size, 0, none⟩ = some (.int .i64 (f i).frm) ∧ w'.cell? ⟨wo.heap.size, 1, none⟩ = some (.int .i64 (f i).ready) ∧ w'.cell? ⟨wo.heap.size, 2, none⟩ = some (.int .i64 (f i).due) ∧ w'.cell? ⟨wo.heap.size, 3, none⟩ = some (.int .i64 (f i).weight) ∧ w'.cell? ⟨wo.heap.size, 4, none⟩ = some (.slice la (f i).nl lc) ∧ w'.cell? ⟨b, 4, none⟩ = some (.int .i64 0)) (by kernel_rfl) ⟨cellLater hD0 z0, cellLater hD0 z1, cellLater hD0 z2, cellLater hD0 z3, cellLater hD0 z4, cellLater hD0 z5⟩ (fun hHeld => ?_)
          refine wpAnyH_take (i := 0) (oi := { dst := some 37, op := Go.Op.move (Go.Operand.tmp 6), type := 23, pos := "l3_best.go:121", after := #[], guard := none }) (v := ?vv1_0) rfl (by kernel_rfl) (by kernel_rfl) (by kernel_rfl) (fun _ _ _ h => h) (Or.inl ⟨by rfl, ?hy1_0⟩) (by assumption) ?rest1_0
          case hy1_0 =>
            intro w hSw
            (try dsimp only at hSw)
            go_simp
            (try with_reducible rfl)
          simp only [Act.put, List.setIfInBounds_toArray, List.set_cons_zero, List.set_cons_succ]
          refine wpAnyH_take (i := 1) (oi := { dst := some 38, op := Go.Op.load 72 (Go.Operand.tmp 5), type := 72, pos := "l3_best.go:121", after := #[], guard := none }) (v := ?vv2_1) rfl (by kernel_rfl) (by kernel_rfl) (by kernel_rfl) (fun _ _ _ h => h) (Or.inl ⟨by rfl, ?hy2_1⟩) (by assumption) ?rest2_1
          case hy2_1 =>
            intro w hSw
            (try dsimp only at hSw)
            go_simp
            (try with_reducible rfl)
          simp only [Act.put, List.setIfInBounds_toArray, List.set_cons_zero, List.set_cons_succ]
          refine wpAnyH_take (i := 2) (oi := { dst := some 39, op := Go.Op.move (Go.Operand.tmp 6), type := 23, pos := "l3_best.go:121", after := #[], guard := none }) (v := ?vv3_2) rfl (by kernel_rfl) (by kernel_rfl) (by kernel_rfl) (fun _ _ _ h => h) (Or.inl ⟨by rfl, ?hy3_2⟩) (by assumption) ?rest3_2
          case hy3_2 =>
            intro w hSw
            (try dsimp only at hSw)
            go_simp
            (try with_reducible rfl)
          simp only [Act.put, List.setIfInBounds_toArray, List.set_cons_zero, List.set_cons_succ]
          refine wpAnyH_take (i := 4) (oi := { dst := some 41, op := Go.Op.move (Go.Operand.tmp 0), type := 84, pos := "l3_best.go:121", after := #[], guard := none }) (v := ?vv4_4) rfl (by kernel_rfl) (by kernel_rfl) (by kernel_rfl) (fun _ _ _ h => h) (Or.inl ⟨by rfl, ?hy4_4⟩) (by assumption) ?rest4_4
          case hy4_4 =>
            intro w hSw
            (try dsimp only at hSw)
            go_simp
            (try with_reducible rfl)
          simp only [Act.put, List.setIfInBounds_toArray, List.set_cons_zero, List.set_cons_succ]
          refine wpAnyH_take (i := 5) (oi := { dst := some 42, op := Go.Op.nilCheck (Go.Operand.tmp 41), type := 0, pos := "l3_best.go:121", after := #[{ on := 4, ground := Go.Ground.data }], guard := none }) (v := ?vv5_5) rfl (by kernel_rfl) (by kernel_rfl) (by kernel_rfl) (fun _ _ _ h => h) (Or.inl ⟨by rfl, ?hy5_5⟩) (by assumption) ?rest5_5
          case hy5_5 =>
            intro w hSw
            (try dsimp only at hSw)
            go_simp
            (try with_reducible rfl)
          simp only [Act.put, List.setIfInBounds_toArray, List.set_cons_zero, List.set_cons_succ]
          refine wpAnyH_take (i := 6) (oi := { dst := some 43, op := Go.Op.fieldAddr 90 (Go.Operand.tmp 42) 2, type := 0, pos := "l3_best.go:121", after := #[{ on := 5, ground := Go.Ground.data }], guard := none }) (v := ?vv6_6) rfl (by kernel_rfl) (by kernel_rfl) (by kernel_rfl) (fun _ _ _ h => h) (Or.inl ⟨by rfl, ?hy6_6⟩) (by assumption) ?rest6_6
          case hy6_6 =>
            intro w hSw
            (try dsimp only at hSw)
            go_simp
            (try with_reducible rfl)
          simp only [Act.put, List.setIfInBounds_toArray, List.set_cons_zero, List.set_cons_succ]
          refine wpAnyH_take (i := 7) (oi := { dst := some 44, op := Go.Op.load 3 (Go.Operand.tmp 43), type := 3, pos := "l3_best.go:121", after := #[{ on := 6, ground := Go.Ground.data }], guard := none }) (v := ?vv7_7) rfl (by kernel_rfl) (by kernel_rfl) (by kernel_rfl) (fun _ _ _ h => h) (Or.inl ⟨by rfl, ?hy7_7⟩) (by assumption) ?rest7_7
          case hy7_7 =>
            intro w hSw
            (try dsimp only at hSw)
            go_simp
            (try with_reducible rfl)
          simp only [Act.put, List.setIfInBounds_toArray, List.set_cons_zero, List.set_cons_succ]
          refine wpAnyH_take (i := 8) (oi := { dst := some 45, op := Go.Op.move (Go.Operand.tmp 0), type := 84, pos := "l3_best.go:121", after := #[], guard := none }) (v := ?vv8_8) rfl (by kernel_rfl) (by kernel_rfl) (by kernel_rfl) (fun _ _ _ h => h) (Or.inl ⟨by rfl, ?hy8_8⟩) (by assumption) ?rest8_8
          case hy8_8 =>
            intro w hSw
            (try dsimp only at hSw)
            go_simp
            (try with_reducible rfl)
          simp only [Act.put, List.setIfInBounds_toArray, List.set_cons_zero, List.set_cons_succ]
          refine wpAnyH_take (i := 9) (oi := { dst := some 46, op := Go.Op.move (Go.Operand.tmp 4), type := 3, pos := "l3_best.go:121", after := #[], guard := none }) (v := ?vv9_9) rfl (by kernel_rfl) (by kernel_rfl) (by kernel_rfl) (fun _ _ _ h => h) (Or.inl ⟨by rfl, ?hy9_9⟩) (by assumption) ?rest9_9
          case hy9_9 =>
            intro w hSw
            (try dsimp only at hSw)
            go_simp
            (try with_reducible rfl)
          simp only [Act.put, List.setIfInBounds_toArray, List.set_cons_zero, List.set_cons_succ]
          refine wpAnyH_take (i := 10) (oi := { dst := some 47, op := Go.Op.load 72 (Go.Operand.tmp 5), type := 72, pos := "l3_best.go:121", after := #[], guard := none }) (v := ?vv10_10) rfl (by kernel_rfl) (by kernel_rfl) (by kernel_rfl) (fun _ _ _ h => h) (Or.inl ⟨by rfl, ?hy10_10⟩) (by assumption) ?rest10_10
          case hy10_10 =>
            intro w hSw
            (try dsimp only at hSw)
            go_simp
            (try with_reducible rfl)
          simp only [Act.put, List.setIfInBounds_toArray, List.set_cons_zero, List.set_cons_succ]
          refine wpAnyH_take (i := 11) (oi := { dst := some 48, op := Go.Op.move (Go.Operand.tmp 7), type := 3, pos := "l3_best.go:121", after := #[], guard := none }) (v := ?vv11_11) rfl (by kernel_rfl) (by kernel_rfl) (by kernel_rfl) (fun _ _ _ h => h) (Or.inl ⟨by rfl, ?hy11_11⟩) (by assumption) ?rest11_11
          case hy11_11 =>
            intro w hSw
            (try dsimp only at hSw)
            go_simp
            (try with_reducible rfl)
          simp only [Act.put, List.setIfInBounds_toArray, List.set_cons_zero, List.set_cons_succ]
          refine wpAnyH_ready (rs := [3]) (by kernel_rfl) (by simp) ?_
          refine AllReadyH.cons (o := { dst := some 40, op := Go.Op.call { callee := Go.Callee.value (Go.Operand.func 59), args := #[Go.Operand.tmp 38, Go.Operand.tmp 39], argTypes := #[72, 23] }, type := 3, pos := "l3_best.go:121", after := #[{ on := 1, ground := Go.Ground.data }, { on := 2, ground := Go.Ground.data }], guard := none }) rfl (fun K hK => ?_) AllReadyH.nil
          go_simp
          go_at_call 59
          with_reducible refine (soonest_any (f i) (lonS (f i)) m la lc sa sc _ hmlt hRt (fun j hj => ⟨(lonS_bd hRt (k := j) (by omega)).1, by have := (lonS_bd hRt (k := j) (by omega)).2; omega⟩) (hlW.grow hD0) (hIr.grow hE0)).mono ?_
          rintro _ w1 ⟨rfl, hB1⟩
          rw [lon_ready]
          have hD1 := Below.join hD0 (Nat.le_refl _) hB1
          have hE1 := Below.join hE0 (Nat.le_refl _) hB1
          go_wp2_with fail
          refine hK.out _ _ ⟨cellLater hD1 z0, cellLater hD1 z1, cellLater hD1 z2, cellLater hD1 z3, cellLater hD1 z4, cellLater hD1 z5⟩ (fun hHeld => ?_)
          clear hK K
          (try simp only [Act.put, List.setIfInBounds_toArray, List.set_cons_zero, List.set_cons_succ])
          refine wpAnyH_ready (rs := [12]) (by kernel_rfl) (by simp) ?_
          refine AllReadyH.cons (o := { dst := some 49, op := Go.Op.call { callee := Go.Callee.value (Go.Operand.func 57), args := #[Go.Operand.tmp 47, Go.Operand.tmp 48], argTypes := #[72, 3] }, type := 3, pos := "l3_best.go:121", after := #[{ on := 10, ground := Go.Ground.data }, { on := 11, ground := Go.Ground.data }, { on := 3, ground := Go.Ground.chain }], guard := none }) rfl (fun K hK => ?_) AllReadyH.nil
          go_simp
          go_at_call 57
          with_reducible refine (trackOf_any (f i) m la lc w1 hmlt hRt.nl (hlW.grow hD1)).mono ?_
          rintro _ w2 ⟨rfl, hB2⟩
          have hD2 := Below.join hD1 (Nat.le_refl _) hB2
          have hE2 := Below.join hE1 (Nat.le_refl _) hB2
          go_wp2_with fail
          refine hK.out _ _ ⟨cellLater hD2 z0, cellLater hD2 z1, cellLater hD2 z2, cellLater hD2 z3, cellLater hD2 z4, cellLater hD2 z5⟩ (fun hHeld => ?_)
          clear hK K
          (try simp only [Act.put, List.setIfInBounds_toArray, List.set_cons_zero, List.set_cons_succ])
          refine wpAnyH_ready (rs := [13]) (by kernel_rfl) (by simp) ?_
          refine AllReadyH.cons (o := { dst := some 50, op := Go.Op.call { callee := Go.Callee.value (Go.Operand.func 70), args := #[Go.Operand.tmp 45, Go.Operand.tmp 46, Go.Operand.tmp 49], argTypes := #[84, 3, 3] }, type := 3, pos := "l3_best.go:121", after := #[{ on := 8, ground := Go.Ground.data }, { on := 9, ground := Go.Ground.data }, { on := 12, ground := Go.Ground.data }, { on := 12, ground := Go.Ground.chain }], guard := none }) rfl (fun K hK => ?_) AllReadyH.nil
          go_simp
          go_at_call 70
          with_reducible refine (trackFree_any b bT 0 (fun _ => .agg #[.int .i64 0, .int .i64 0, .int .i64 0]) i (trackOf (f i) m) 0 0 0 w2 (hwf'.out i hlt m hmlt) (cellLater hD2 z6) (hkW.later hD2) rfl).mono ?_
          rintro _ w3 ⟨rfl, hB3⟩
          rw [ite_self]
          have hD3 := Below.join hD2 (Nat.le_refl _) hB3
          have hE3 := Below.join hE2 (Nat.le_refl _) hB3
          go_wp2_with fail
          refine hK.out _ _ ⟨cellLater hD3 z0, cellLater hD3 z1, cellLater hD3 z2, cellLater hD3 z3, cellLater hD3 z4, cellLater hD3 z5⟩ (fun hHeld => ?_)
          clear hK K
          (try simp only [Act.put, List.setIfInBounds_toArray, List.set_cons_zero, List.set_cons_succ])
          refine wpAnyH_ready (rs := [14]) (by kernel_rfl) (by simp) ?_
          refine AllReadyH.cons (o := { dst := some 51, op := Go.Op.call { callee := Go.Callee.builtin Go.Builtin.max, args := #[Go.Operand.tmp 40, Go.Operand.tmp 44, Go.Operand.tmp 50], argTypes := #[3, 3, 3] }, type := 3, pos := "l3_best.go:121", after := #[{ on := 3, ground := Go.Ground.data }, { on := 7, ground := Go.Ground.data }, { on := 13, ground := Go.Ground.data }], guard := none }) rfl (fun K hK => ?_) AllReadyH.nil
          go_simp
          refine hK.out _ _ ⟨cellLater hD3 z0, cellLater hD3 z1, cellLater hD3 z2, cellLater hD3 z3, cellLater hD3 z4, cellLater hD3 z5⟩ (fun hHeld => ?_)
          clear hK K
          (try simp only [Act.put, List.setIfInBounds_toArray, List.set_cons_zero, List.set_cons_succ])
          simp only [if_neg (show ¬ (lonS (f i) m < 0) by omega)]
          have hA4 := b1 w3 (.cells #[.int .i64 (lonS (f i) m)] 3)
          have hD4 := Below.join hD3 (Nat.le_refl _) hA4
          obtain ⟨v4, W4, hap, hown4, hgr4, _, hloc4⟩ := run_append_own_at (P := Tryz.prog) (w3.alloc (.cells #[.int .i64 (lonS (f i) m)] 3)) W.heap.size 23 23 3 i0 _ 1 8 Tryz.underlying23 ii iz0 iz1 iz2 rfl (by decide) (.slice sa m sc) m (rowCells ⟨m, lonS (f i)⟩) (ownsRow_later hown (Below.join hE3 (Nat.le_refl _) hA4)) ⟨w3.heap.size, 0, none⟩ 1 1 [.int .i64 (lonS (f i) m)] rfl cells1_lie one1 (by unfold maxLen; omega) (by omega) (by rw [World.size_alloc]; have := hD3.size; omega)
          have hD5 : Below W.heap.size W W4 := below_grown hD4 hgr4 (by have := hD4.size; omega) (fun j hj => (hown.lt j hj).1)
          refine wpAnyH_ready (rs := [15]) (by kernel_rfl) (by simp) ?_
          refine AllReadyH.cons (o := { dst := some 52, op := Go.Op.buildSlice 23 1 #[(0, Go.Operand.tmp 51)], type := 23, pos := "l3_best.go:121", after := #[{ on := 14, ground := Go.Ground.data }], guard := none }) rfl (fun K hK => ?_) AllReadyH.nil
          go_simp
          refine hK.out _ _ ⟨cellLater hD4 z0, cellLater hD4 z1, cellLater hD4 z2, cellLater hD4 z3, cellLater hD4 z4, cellLater hD4 z5⟩ (fun hHeld => ?_)
          clear hK K
          (try simp only [Act.put, List.setIfInBounds_toArray, List.set_cons_zero, List.set_cons_succ])
          refine wpAnyH_ready (rs := [16]) (by kernel_rfl) (by simp) ?_
          refine AllReadyH.cons (o := { dst := some 53, op := Go.Op.call { callee := Go.Callee.builtin Go.Builtin.append, args := #[Go.Operand.tmp 37, Go.Operand.tmp 52], argTypes := #[23, 23] }, type := 23, pos := "l3_best.go:121", after := #[{ on := 0, ground := Go.Ground.data }, { on := 15, ground := Go.Ground.data }, { on := 13, ground := Go.Ground.chain }], guard := none }) rfl (fun K hK => ?_) AllReadyH.nil
          refine step_append_eq _ (by rfl) _ _ _ (by rfl) _ _ _ _ (by rfl) (by rfl) hap ?_
          refine hK.out _ _ ⟨cellLater hD5 z0, cellLater hD5 z1, cellLater hD5 z2, cellLater hD5 z3, cellLater hD5 z4, cellLater hD5 z5⟩ (fun hHeld => ?_)
          clear hK K
          (try simp only [Act.put, List.setIfInBounds_toArray, List.set_cons_zero, List.set_cons_succ])
          refine wpAnyH_ready (rs := [17]) (by kernel_rfl) (by simp) ?_
          refine AllReadyH.cons (o := { dst := some 6, op := Go.Op.assign (Go.Operand.tmp 53), type := 23, pos := "l3_best.go:121", after := #[{ on := 16, ground := Go.Ground.data }, { on := 16, ground := Go.Ground.chain }, { on := 0, ground := Go.Ground.phase }, { on := 1, ground := Go.Ground.phase }, { on := 2, ground := Go.Ground.phase }, { on := 3, ground := Go.Ground.phase }, { on := 4, ground := Go.Ground.phase }, { on := 5, ground := Go.Ground.phase }, { on := 6, ground := Go.Ground.phase }, { on := 7, ground := Go.Ground.phase }, { on := 8, ground := Go.Ground.phase }, { on := 9, ground := Go.Ground.phase }, { on := 10, ground := Go.Ground.phase }, { on := 11, ground := Go.Ground.phase }, { on := 12, ground := Go.Ground.phase }, { on := 13, ground := Go.Ground.phase }, { on := 14, ground := Go.Ground.phase }, { on := 15, ground := Go.Ground.phase }, { on := 16, ground := Go.Ground.phase }], guard := none }) rfl (fun K hK => ?_) AllReadyH.nil
          go_simp
          refine hK.out _ _ ⟨cellLater hD5 z0, cellLater hD5 z1, cellLater hD5 z2, cellLater hD5 z3, cellLater hD5 z4, cellLater hD5 z5⟩ (fun hHeld => ?_)
          clear hK K
          (try simp only [Act.put, List.setIfInBounds_toArray, List.set_cons_zero, List.set_cons_succ])
          refine wpAnyH_done (by kernel_rfl) ?_ _
          clear hap
          go_wp2
          go_roundw
          case rel => exact ⟨m + 1, by omega, by go_num, by rw [rowCells_succ]; exact hown4, hD5⟩
          case measure => simp only [intOf]; omega
        · obtain rfl : m = (f i).nl := by omega
          have hpos := hR.pos i hlt
          obtain ⟨en0, en1⟩ := endOf_bd hRt
          obtain ⟨la0, la1⟩ := lateOf_bd hRt en0 en1
          obtain ⟨co0, co1⟩ := costSum_bd (f := f) (n := np) hR.train i (by omega)
          have co2 : costSum f i ≤ 150000000 := by omega
          obtain ⟨sa, sc, rfl, hIr⟩ := rowInts hown
          have hD0 : Below W.heap.size W wr.drew := hBr.drew
          have hE0 : Below wr.heap.size wr wr.drew := (Below.refl _ _).drew
          have hEn : ∀ V : World, Below wr.heap.size wr V → Calls Tryz.prog 39 #[.agg #[.int .i64 (f i).frm, .int .i64 (f i).ready, .int .i64 (f i).due, .int .i64 (f i).weight, .slice la (f i).nl lc], .slice sa (f i).nl sc] V fun x w' => x = .returned (.int .i64 (endOf (f i))) ∧ Below V.heap.size V w' := fun V hV => by
            have hb := lonS_bd hRt (k := (f i).nl - 1) (by omega)
            have h := end_any (f i) ((f i).nl - 1) la lc (lonS (f i)) sa sc V (by omega) hRt hb.1 (by omega) (hlW.grow (Below.join hBr (Nat.le_refl _) hV)) (by rw [Nat.sub_add_cancel hpos]; exact hIr.grow hV)
            rw [Nat.sub_add_cancel hpos, lonS_end hpos] at h
            exact h
          have y10 := cellLater hD0 y1
          clear co1
          go_wp2
          clear k4
          refine wp_region_held_drew (S := fun w' => w'.cell? ⟨wo.heap.size, 0, none⟩ = some (.int .i64 (f i).frm) ∧ w'.cell? ⟨wo.heap.size, 1, none⟩ = some (.int .i64 (f i).ready) ∧ w'.cell? ⟨wo.heap.size, 2, none⟩ = some (.int .i64 (f i).due) ∧ w'.cell? ⟨wo.heap.size, 3, none⟩ = some (.int .i64 (f i).weight) ∧ w'.cell? ⟨wo.heap.size, 4, none⟩ = some (.slice la (f i).nl lc)) (by kernel_rfl) ⟨cellLater hD0 z0, cellLater hD0 z1, cellLater hD0 z2, cellLater hD0 z3, cellLater hD0 z4⟩ (fun hHeld => ?_)
          refine wpAnyH_take (i := 0) (oi := { dst := some 54, op := Go.Op.fieldAddr 47 (Go.Operand.tmp 3) 1, type := 0, pos := "l3_best.go:123", after := #[], guard := none }) (v := ?vv501_0) rfl (by kernel_rfl) (by kernel_rfl) (by kernel_rfl) (fun _ _ _ h => h) (Or.inl ⟨by rfl, ?hy501_0⟩) (by assumption) ?rest501_0
          case hy501_0 =>
            intro w hSw
            (try dsimp only at hSw)
            go_simp
            (try with_reducible rfl)
          simp only [Act.put, List.setIfInBounds_toArray, List.set_cons_zero, List.set_cons_succ]
          refine wpAnyH_take (i := 2) (oi := { dst := some 56, op := Go.Op.load 72 (Go.Operand.tmp 5), type := 72, pos := "l3_best.go:123", after := #[], guard := none }) (v := ?vv502_2) rfl (by kernel_rfl) (by kernel_rfl) (by kernel_rfl) (fun _ _ _ h => h) (Or.inl ⟨by rfl, ?hy502_2⟩) (by assumption) ?rest502_2
          case hy502_2 =>
            intro w hSw
            (try dsimp only at hSw)
            go_simp
            (try with_reducible rfl)
          simp only [Act.put, List.setIfInBounds_toArray, List.set_cons_zero, List.set_cons_succ]
          refine wpAnyH_take (i := 3) (oi := { dst := some 57, op := Go.Op.load 72 (Go.Operand.tmp 5), type := 72, pos := "l3_best.go:123", after := #[], guard := none }) (v := ?vv503_3) rfl (by kernel_rfl) (by kernel_rfl) (by kernel_rfl) (fun _ _ _ h => h) (Or.inl ⟨by rfl, ?hy503_3⟩) (by assumption) ?rest503_3
          case hy503_3 =>
            intro w hSw
            (try dsimp only at hSw)
            go_simp
            (try with_reducible rfl)
          simp only [Act.put, List.setIfInBounds_toArray, List.set_cons_zero, List.set_cons_succ]
          refine wpAnyH_take (i := 4) (oi := { dst := some 58, op := Go.Op.move (Go.Operand.tmp 6), type := 23, pos := "l3_best.go:123", after := #[], guard := none }) (v := ?vv504_4) rfl (by kernel_rfl) (by kernel_rfl) (by kernel_rfl) (fun _ _ _ h => h) (Or.inl ⟨by rfl, ?hy504_4⟩) (by assumption) ?rest504_4
          case hy504_4 =>
            intro w hSw
            (try dsimp only at hSw)
            go_simp
            (try with_reducible rfl)
          simp only [Act.put, List.setIfInBounds_toArray, List.set_cons_zero, List.set_cons_succ]
          refine wpAnyH_ready (rs := [1, 5]) (by kernel_rfl) (by simp) ?_
          refine AllReadyH.cons (o := { dst := some 55, op := Go.Op.load 3 (Go.Operand.tmp 54), type := 3, pos := "l3_best.go:123", after := #[{ on := 0, ground := Go.Ground.data }], guard := none }) rfl (fun K hK => ?_) (AllReadyH.cons (o := { dst := some 59, op := Go.Op.call { callee := Go.Callee.value (Go.Operand.func 39), args := #[Go.Operand.tmp 57, Go.Operand.tmp 58], argTypes := #[72, 23] }, type := 3, pos := "l3_best.go:123", after := #[{ on := 3, ground := Go.Ground.data }, { on := 4, ground := Go.Ground.data }], guard := none }) rfl (fun K hK => ?_) AllReadyH.nil)
          · go_simp
            refine hK.out _ _ ⟨cellLater hD0 z0, cellLater hD0 z1, cellLater hD0 z2, cellLater hD0 z3, cellLater hD0 z4⟩ (fun hHeld => ?_)
            clear hK K
            (try simp only [Act.put, List.setIfInBounds_toArray, List.set_cons_zero, List.set_cons_succ])
            refine wpAnyH_ready (rs := [5]) (by kernel_rfl) (by simp) ?_
            refine AllReadyH.cons (o := { dst := some 59, op := Go.Op.call { callee := Go.Callee.value (Go.Operand.func 39), args := #[Go.Operand.tmp 57, Go.Operand.tmp 58], argTypes := #[72, 23] }, type := 3, pos := "l3_best.go:123", after := #[{ on := 3, ground := Go.Ground.data }, { on := 4, ground := Go.Ground.data }], guard := none }) rfl (fun K hK => ?_) AllReadyH.nil
            go_simp
            go_at_call 39
            with_reducible refine (hEn _ hE0).mono ?_
            rintro _ w1 ⟨rfl, hB1⟩
            have hD1 := Below.join hD0 (Nat.le_refl _) hB1
            have hE1 := Below.join hE0 (Nat.le_refl _) hB1
            have y11 := cellLater hD1 y1
            go_wp2_with fail
            refine hK.out _ _ ⟨cellLater hD1 z0, cellLater hD1 z1, cellLater hD1 z2, cellLater hD1 z3, cellLater hD1 z4⟩ (fun hHeld => ?_)
            clear hK K
            (try simp only [Act.put, List.setIfInBounds_toArray, List.set_cons_zero, List.set_cons_succ])
            refine wpAnyH_ready (rs := [6]) (by kernel_rfl) (by simp) ?_
            refine AllReadyH.cons (o := { dst := some 60, op := Go.Op.call { callee := Go.Callee.value (Go.Operand.func 38), args := #[Go.Operand.tmp 56, Go.Operand.tmp 59], argTypes := #[72, 3] }, type := 3, pos := "l3_best.go:123", after := #[{ on := 2, ground := Go.Ground.data }, { on := 5, ground := Go.Ground.data }, { on := 5, ground := Go.Ground.chain }], guard := none }) rfl (fun K hK => ?_) AllReadyH.nil
            go_simp
            go_at_call 38
            with_reducible refine (latenessP_any (f i) (endOf (f i)) la lc w1 hRt en0 (by omega)).mono ?_
            rintro _ w2 ⟨rfl, hB2⟩
            have hD2 := Below.join hD1 (Nat.le_refl _) hB2
            have hE2 := Below.join hE1 (Nat.le_refl _) hB2
            have y12 := cellLater hD2 y1
            go_wp2_with fail
            refine hK.out _ _ ⟨cellLater hD2 z0, cellLater hD2 z1, cellLater hD2 z2, cellLater hD2 z3, cellLater hD2 z4⟩ (fun hHeld => ?_)
            clear hK K
            (try simp only [Act.put, List.setIfInBounds_toArray, List.set_cons_zero, List.set_cons_succ])
            refine wpAnyH_ready (rs := [7]) (by kernel_rfl) (by simp) ?_
            refine AllReadyH.cons (o := { dst := some 61, op := Go.Op.binOp Go.BinOp.add 3 (Go.Operand.tmp 55) (Go.Operand.tmp 60) 3, type := 3, pos := "l3_best.go:123", after := #[{ on := 1, ground := Go.Ground.data }, { on := 6, ground := Go.Ground.data }], guard := none }) rfl (fun K hK => ?_) AllReadyH.nil
            go_simp
            refine hK.out _ _ ⟨cellLater hD2 z0, cellLater hD2 z1, cellLater hD2 z2, cellLater hD2 z3, cellLater hD2 z4⟩ (fun hHeld => ?_)
            clear hK K
            (try simp only [Act.put, List.setIfInBounds_toArray, List.set_cons_zero, List.set_cons_succ])
            rw [wrap_cost co0 co2 la0 la1]
            refine wpAnyH_ready (rs := [8]) (by kernel_rfl) (by simp) ?_
            refine AllReadyH.cons (o := { dst := some 62, op := Go.Op.fieldAddr 47 (Go.Operand.tmp 3) 1, type := 0, pos := "l3_best.go:123", after := #[{ on := 0, ground := Go.Ground.phase }, { on := 1, ground := Go.Ground.phase }, { on := 2, ground := Go.Ground.phase }, { on := 3, ground := Go.Ground.phase }, { on := 4, ground := Go.Ground.phase }, { on := 5, ground := Go.Ground.phase }, { on := 6, ground := Go.Ground.phase }, { on := 7, ground := Go.Ground.phase }], guard := none }) rfl (fun K hK => ?_) AllReadyH.nil
            go_simp
            refine hK.out _ _ ⟨cellLater hD2 z0, cellLater hD2 z1, cellLater hD2 z2, cellLater hD2 z3, cellLater hD2 z4⟩ (fun hHeld => ?_)
            clear hK K
            (try simp only [Act.put, List.setIfInBounds_toArray, List.set_cons_zero, List.set_cons_succ])
            have yz12 : w2.frozen? ⟨q, 1, none⟩ = false := (hD2.frozen (ltCell y1)).trans yz1
            have hX : ∀ k v, W.cell? ⟨wo.heap.size, k, none⟩ = some v → (w2.setCell ⟨q, 1, none⟩ (.int .i64 (costSum f i + lateOf (f i) (endOf (f i))))).cell? ⟨wo.heap.size, k, none⟩ = some v := fun k v hc => (World.cell?_of_block (a := ⟨wo.heap.size, k, none⟩) (Below.heap_setCell w2 ⟨q, 1, none⟩ _ wo.heap.size (by dsimp only; omega))).trans (cellLater hD2 hc)
            refine wpAnyH_ready (rs := [9]) (by kernel_rfl) (by simp) ?_
            refine AllReadyH.cons (o := { dst := none, op := Go.Op.store 3 (Go.Operand.tmp 62) (Go.Operand.tmp 61), type := 0, pos := "l3_best.go:123", after := #[{ on := 8, ground := Go.Ground.data }, { on := 7, ground := Go.Ground.data }, { on := 6, ground := Go.Ground.chain }, { on := 0, ground := Go.Ground.phase }, { on := 1, ground := Go.Ground.phase }, { on := 2, ground := Go.Ground.phase }, { on := 3, ground := Go.Ground.phase }, { on := 4, ground := Go.Ground.phase }, { on := 5, ground := Go.Ground.phase }, { on := 6, ground := Go.Ground.phase }, { on := 7, ground := Go.Ground.phase }], guard := none }) rfl (fun K hK => ?_) AllReadyH.nil
            go_simp
            refine hK.out _ _ ⟨hX 0 _ z0, hX 1 _ z1, hX 2 _ z2, hX 3 _ z3, hX 4 _ z4⟩ (fun hHeld => ?_)
            clear hK K
            (try simp only [Act.put, List.setIfInBounds_toArray, List.set_cons_zero, List.set_cons_succ])
            refine wpAnyH_done (by kernel_rfl) ?_ _
            have hPT := ((hI'.out.put.later (Below.join hAW (Nat.le_refl _) hD2)).set (o' := 1) (by decide) (.int .i64 (costSum f i + lateOf (f i) (endOf (f i)))))
            have c0T := hI'.out.c0
            have c0T' : (w2.setCell ⟨q, 1, none⟩ (.int .i64 (costSum f i + lateOf (f i) (endOf (f i))))).cell? ⟨q, 0, none⟩ = some (.bool true) := (cell_set_ne (by decide)).trans (cellLater (Below.join hAW (Nat.le_refl _) hD2) c0T)
            have c1T : (w2.setCell ⟨q, 1, none⟩ (.int .i64 (costSum f i + lateOf (f i) (endOf (f i))))).cell? ⟨q, 1, none⟩ = some (.int .i64 (costSum f (i + 1))) := World.cell?_setCell_same _ _ _ y12
            have z1T : (w2.setCell ⟨q, 1, none⟩ (.int .i64 (costSum f i + lateOf (f i) (endOf (f i))))).frozen? ⟨q, 1, none⟩ = false := by rw [World.frozen?_setCell]; exact yz12
            have hBT : Below w.heap.size w (w2.setCell ⟨q, 1, none⟩ (.int .i64 (costSum f i + lateOf (f i) (endOf (f i))))) := (Below.join hBW (Nat.le_refl _) hD2).setCell (p := ⟨q, 1, none⟩) hqw _
            have hRmT : Room w.heap.size 3 (w2.setCell ⟨q, 1, none⟩ (.int .i64 (costSum f i + lateOf (f i) (endOf (f i))))) := (hI'.out.room.below (Below.join hAW (Nat.le_refl _) hD2) (by omega)).set ⟨q, 1, none⟩ _
            have hrT : (w2.setCell ⟨q, 1, none⟩ (.int .i64 (costSum f i + lateOf (f i) (endOf (f i))))).ownsRow (q + 1) 3 1 (.slice sa (f i).nl sc) (f i).nl (rowCells ⟨(f i).nl, lonS (f i)⟩) := Joins.ownsRow_le (ownsRow_setCell_below (ownsRow_later hown hE2) (show q < W.heap.size by omega) _) (by omega)
            have hnewT : ∀ y, (Value.slice sa (f i).nl sc).ownBlock = some y → vS.ownBlock ≠ some y ∧ ∀ k, k < i → (v k).ownBlock ≠ some y := fun y hy => by
              have h1 := (hown.lt y hy).1
              exact ⟨fun e => by have := (hI'.out.put.own.lt y e).2; omega, fun k hk e => by have := ((hI'.out.put.rows k hk).lt y e).2; omega⟩
            have lqT : q < (w2.setCell ⟨q, 1, none⟩ (.int .i64 (costSum f i + lateOf (f i) (endOf (f i))))).heap.size := ltCell c1T
            generalize hwT : w2.setCell ⟨q, 1, none⟩ (.int .i64 (costSum f i + lateOf (f i) (endOf (f i)))) = wT at hPT c0T' c1T z1T hBT hRmT hrT lqT ⊢
            have cT := hPT.c
            have hBA := b1 wT (.cells #[.slice sa (f i).nl sc] 23)
            have hRo := ownsRow_later hPT.own hBA
            have hPT' : Hid _ := hPT
            have hnT' : Hid _ := hnewT
            clear hwT hX hPT hnewT hD0 hD1 hD2 hE0 hE1 hE2 hEn y1 y10 y11 y12 yz1 yz12 hown hIr c0T z0 z1 z2 z3 z4 z5 z6
            go_wp2_with (at_builtin; refine wpList_append_own_at _ rfl _ _ 28 rfl (q + 1) 23 k0 _ 1 24 Tryz.underlying28 ki kz0 kz1 kz2 rfl (by decide) vS i ((List.range i).map v) rfl hRo ⟨_, 0, none⟩ 1 1 [.slice sa (f i).nl sc] rfl rfl cells1_lie (fun x hx => by simp at hx; subst hx; rfl) ?b1 ?b2 ?b3 ?_)
            case b1 => unfold maxLen; omega
            case b2 => omega
            case b3 => simp only [World.size_alloc]; omega
            intro v2 W2 hown2 hgr2 _ hloc2
            have hst := hPT'.out.stepN (R := ⟨(f i).nl, lonS (f i)⟩) (Below.refl _ _) hrT hnT'.out hown2 hgr2 (by rw [World.size_alloc]; exact hloc2)
            rw [lonP_if] at hst
            obtain ⟨hst, m3, mz, hkp⟩ := hst
            have hqS : vS.ownBlock ≠ some q := fun e => by have := (hPT'.out.own.lt q e).1; omega
            have hwS : vS.ownBlock ≠ some w.heap.size := fun e => by have := (hPT'.out.own.lt _ e).1; omega
            have g0 : W2.cell? ⟨q, 0, none⟩ = some (.bool true) := (World.cell?_of_block (w := wT) (a := ⟨q, 0, none⟩) (hkp q lqT hqS)).trans c0T'
            have g1 : W2.cell? ⟨q, 1, none⟩ = some (.int .i64 (costSum f (i + 1))) := (World.cell?_of_block (w := wT) (a := ⟨q, 1, none⟩) (hkp q lqT hqS)).trans c1T
            have gz : W2.frozen? ⟨q, 1, none⟩ = false := (World.frozen?_of_block (w := wT) (a := ⟨q, 1, none⟩) (hkp q lqT hqS)).trans z1T
            have hB2 : Below w.heap.size w W2 := below_grown (Below.join hBT (Nat.le_refl _) hBA) hgr2 (by have := hBT.size; have := hBA.size; omega) (fun j hj => by have := (hPT'.out.own.lt j hj).1; omega)
            have hRm2 : Room w.heap.size 3 W2 := Room.grown (hRmT.below hBA (by omega)) hgr2 (fun k hk e => hwS (by rw [hk, e]))
            obtain ⟨gn, cn, rfl⟩ := Joins.ownsRow_form hown2 (by omega)
            have hst' : Hid _ := hst
            clear hst hown2 hgr2 hrT cT hBA hRo hkp
            go_wp2
            go_roundw
            case rel => exact ⟨i + 1, _, _, by omega, rfl, ⟨hst'.out, (cell_set_ne (by decide)).trans g0, (cell_set_ne (by decide)).trans g1, by rw [World.frozen?_setCell]; exact gz, hRm2.set ⟨q, 2, none⟩ _, hB2.setCell (p := ⟨q, 2, none⟩) hqw _⟩⟩
            case measure => simp only [intOf]; omega
          · go_simp
            go_at_call 39
            with_reducible refine (hEn _ hE0).mono ?_
            rintro _ w1 ⟨rfl, hB1⟩
            have hD1 := Below.join hD0 (Nat.le_refl _) hB1
            have hE1 := Below.join hE0 (Nat.le_refl _) hB1
            have y11 := cellLater hD1 y1
            go_wp2_with fail
            refine hK.out _ _ ⟨cellLater hD1 z0, cellLater hD1 z1, cellLater hD1 z2, cellLater hD1 z3, cellLater hD1 z4⟩ (fun hHeld => ?_)
            clear hK K
            (try simp only [Act.put, List.setIfInBounds_toArray, List.set_cons_zero, List.set_cons_succ])
            refine wpAnyH_ready (rs := [1, 6]) (by kernel_rfl) (by simp) ?_
            refine AllReadyH.cons (o := { dst := some 55, op := Go.Op.load 3 (Go.Operand.tmp 54), type := 3, pos := "l3_best.go:123", after := #[{ on := 0, ground := Go.Ground.data }], guard := none }) rfl (fun K hK => ?_) (AllReadyH.cons (o := { dst := some 60, op := Go.Op.call { callee := Go.Callee.value (Go.Operand.func 38), args := #[Go.Operand.tmp 56, Go.Operand.tmp 59], argTypes := #[72, 3] }, type := 3, pos := "l3_best.go:123", after := #[{ on := 2, ground := Go.Ground.data }, { on := 5, ground := Go.Ground.data }, { on := 5, ground := Go.Ground.chain }], guard := none }) rfl (fun K hK => ?_) AllReadyH.nil)
            · go_simp
              refine hK.out _ _ ⟨cellLater hD1 z0, cellLater hD1 z1, cellLater hD1 z2, cellLater hD1 z3, cellLater hD1 z4⟩ (fun hHeld => ?_)
              clear hK K
              (try simp only [Act.put, List.setIfInBounds_toArray, List.set_cons_zero, List.set_cons_succ])
              refine wpAnyH_ready (rs := [6]) (by kernel_rfl) (by simp) ?_
              refine AllReadyH.cons (o := { dst := some 60, op := Go.Op.call { callee := Go.Callee.value (Go.Operand.func 38), args := #[Go.Operand.tmp 56, Go.Operand.tmp 59], argTypes := #[72, 3] }, type := 3, pos := "l3_best.go:123", after := #[{ on := 2, ground := Go.Ground.data }, { on := 5, ground := Go.Ground.data }, { on := 5, ground := Go.Ground.chain }], guard := none }) rfl (fun K hK => ?_) AllReadyH.nil
              go_simp
              go_at_call 38
              with_reducible refine (latenessP_any (f i) (endOf (f i)) la lc w1 hRt en0 (by omega)).mono ?_
              rintro _ w2 ⟨rfl, hB2⟩
              have hD2 := Below.join hD1 (Nat.le_refl _) hB2
              have hE2 := Below.join hE1 (Nat.le_refl _) hB2
              have y12 := cellLater hD2 y1
              go_wp2_with fail
              refine hK.out _ _ ⟨cellLater hD2 z0, cellLater hD2 z1, cellLater hD2 z2, cellLater hD2 z3, cellLater hD2 z4⟩ (fun hHeld => ?_)
              clear hK K
              (try simp only [Act.put, List.setIfInBounds_toArray, List.set_cons_zero, List.set_cons_succ])
              refine wpAnyH_ready (rs := [7]) (by kernel_rfl) (by simp) ?_
              refine AllReadyH.cons (o := { dst := some 61, op := Go.Op.binOp Go.BinOp.add 3 (Go.Operand.tmp 55) (Go.Operand.tmp 60) 3, type := 3, pos := "l3_best.go:123", after := #[{ on := 1, ground := Go.Ground.data }, { on := 6, ground := Go.Ground.data }], guard := none }) rfl (fun K hK => ?_) AllReadyH.nil
              go_simp
              refine hK.out _ _ ⟨cellLater hD2 z0, cellLater hD2 z1, cellLater hD2 z2, cellLater hD2 z3, cellLater hD2 z4⟩ (fun hHeld => ?_)
              clear hK K
              (try simp only [Act.put, List.setIfInBounds_toArray, List.set_cons_zero, List.set_cons_succ])
              rw [wrap_cost co0 co2 la0 la1]
              refine wpAnyH_ready (rs := [8]) (by kernel_rfl) (by simp) ?_
              refine AllReadyH.cons (o := { dst := some 62, op := Go.Op.fieldAddr 47 (Go.Operand.tmp 3) 1, type := 0, pos := "l3_best.go:123", after := #[{ on := 0, ground := Go.Ground.phase }, { on := 1, ground := Go.Ground.phase }, { on := 2, ground := Go.Ground.phase }, { on := 3, ground := Go.Ground.phase }, { on := 4, ground := Go.Ground.phase }, { on := 5, ground := Go.Ground.phase }, { on := 6, ground := Go.Ground.phase }, { on := 7, ground := Go.Ground.phase }], guard := none }) rfl (fun K hK => ?_) AllReadyH.nil
              go_simp
              refine hK.out _ _ ⟨cellLater hD2 z0, cellLater hD2 z1, cellLater hD2 z2, cellLater hD2 z3, cellLater hD2 z4⟩ (fun hHeld => ?_)
              clear hK K
              (try simp only [Act.put, List.setIfInBounds_toArray, List.set_cons_zero, List.set_cons_succ])
              have yz12 : w2.frozen? ⟨q, 1, none⟩ = false := (hD2.frozen (ltCell y1)).trans yz1
              have hX : ∀ k v, W.cell? ⟨wo.heap.size, k, none⟩ = some v → (w2.setCell ⟨q, 1, none⟩ (.int .i64 (costSum f i + lateOf (f i) (endOf (f i))))).cell? ⟨wo.heap.size, k, none⟩ = some v := fun k v hc => (World.cell?_of_block (a := ⟨wo.heap.size, k, none⟩) (Below.heap_setCell w2 ⟨q, 1, none⟩ _ wo.heap.size (by dsimp only; omega))).trans (cellLater hD2 hc)
              refine wpAnyH_ready (rs := [9]) (by kernel_rfl) (by simp) ?_
              refine AllReadyH.cons (o := { dst := none, op := Go.Op.store 3 (Go.Operand.tmp 62) (Go.Operand.tmp 61), type := 0, pos := "l3_best.go:123", after := #[{ on := 8, ground := Go.Ground.data }, { on := 7, ground := Go.Ground.data }, { on := 6, ground := Go.Ground.chain }, { on := 0, ground := Go.Ground.phase }, { on := 1, ground := Go.Ground.phase }, { on := 2, ground := Go.Ground.phase }, { on := 3, ground := Go.Ground.phase }, { on := 4, ground := Go.Ground.phase }, { on := 5, ground := Go.Ground.phase }, { on := 6, ground := Go.Ground.phase }, { on := 7, ground := Go.Ground.phase }], guard := none }) rfl (fun K hK => ?_) AllReadyH.nil
              go_simp
              refine hK.out _ _ ⟨hX 0 _ z0, hX 1 _ z1, hX 2 _ z2, hX 3 _ z3, hX 4 _ z4⟩ (fun hHeld => ?_)
              clear hK K
              (try simp only [Act.put, List.setIfInBounds_toArray, List.set_cons_zero, List.set_cons_succ])
              refine wpAnyH_done (by kernel_rfl) ?_ _
              have hPT := ((hI'.out.put.later (Below.join hAW (Nat.le_refl _) hD2)).set (o' := 1) (by decide) (.int .i64 (costSum f i + lateOf (f i) (endOf (f i)))))
              have c0T := hI'.out.c0
              have c0T' : (w2.setCell ⟨q, 1, none⟩ (.int .i64 (costSum f i + lateOf (f i) (endOf (f i))))).cell? ⟨q, 0, none⟩ = some (.bool true) := (cell_set_ne (by decide)).trans (cellLater (Below.join hAW (Nat.le_refl _) hD2) c0T)
              have c1T : (w2.setCell ⟨q, 1, none⟩ (.int .i64 (costSum f i + lateOf (f i) (endOf (f i))))).cell? ⟨q, 1, none⟩ = some (.int .i64 (costSum f (i + 1))) := World.cell?_setCell_same _ _ _ y12
              have z1T : (w2.setCell ⟨q, 1, none⟩ (.int .i64 (costSum f i + lateOf (f i) (endOf (f i))))).frozen? ⟨q, 1, none⟩ = false := by rw [World.frozen?_setCell]; exact yz12
              have hBT : Below w.heap.size w (w2.setCell ⟨q, 1, none⟩ (.int .i64 (costSum f i + lateOf (f i) (endOf (f i))))) := (Below.join hBW (Nat.le_refl _) hD2).setCell (p := ⟨q, 1, none⟩) hqw _
              have hRmT : Room w.heap.size 3 (w2.setCell ⟨q, 1, none⟩ (.int .i64 (costSum f i + lateOf (f i) (endOf (f i))))) := (hI'.out.room.below (Below.join hAW (Nat.le_refl _) hD2) (by omega)).set ⟨q, 1, none⟩ _
              have hrT : (w2.setCell ⟨q, 1, none⟩ (.int .i64 (costSum f i + lateOf (f i) (endOf (f i))))).ownsRow (q + 1) 3 1 (.slice sa (f i).nl sc) (f i).nl (rowCells ⟨(f i).nl, lonS (f i)⟩) := Joins.ownsRow_le (ownsRow_setCell_below (ownsRow_later hown hE2) (show q < W.heap.size by omega) _) (by omega)
              have hnewT : ∀ y, (Value.slice sa (f i).nl sc).ownBlock = some y → vS.ownBlock ≠ some y ∧ ∀ k, k < i → (v k).ownBlock ≠ some y := fun y hy => by
                have h1 := (hown.lt y hy).1
                exact ⟨fun e => by have := (hI'.out.put.own.lt y e).2; omega, fun k hk e => by have := ((hI'.out.put.rows k hk).lt y e).2; omega⟩
              have lqT : q < (w2.setCell ⟨q, 1, none⟩ (.int .i64 (costSum f i + lateOf (f i) (endOf (f i))))).heap.size := ltCell c1T
              generalize hwT : w2.setCell ⟨q, 1, none⟩ (.int .i64 (costSum f i + lateOf (f i) (endOf (f i)))) = wT at hPT c0T' c1T z1T hBT hRmT hrT lqT ⊢
              have cT := hPT.c
              have hBA := b1 wT (.cells #[.slice sa (f i).nl sc] 23)
              have hRo := ownsRow_later hPT.own hBA
              have hPT' : Hid _ := hPT
              have hnT' : Hid _ := hnewT
              clear hwT hX hPT hnewT hD0 hD1 hD2 hE0 hE1 hE2 hEn y1 y10 y11 y12 yz1 yz12 hown hIr c0T z0 z1 z2 z3 z4 z5 z6
              go_wp2_with (at_builtin; refine wpList_append_own_at _ rfl _ _ 28 rfl (q + 1) 23 k0 _ 1 24 Tryz.underlying28 ki kz0 kz1 kz2 rfl (by decide) vS i ((List.range i).map v) rfl hRo ⟨_, 0, none⟩ 1 1 [.slice sa (f i).nl sc] rfl rfl cells1_lie (fun x hx => by simp at hx; subst hx; rfl) ?b1 ?b2 ?b3 ?_)
              case b1 => unfold maxLen; omega
              case b2 => omega
              case b3 => simp only [World.size_alloc]; omega
              intro v2 W2 hown2 hgr2 _ hloc2
              have hst := hPT'.out.stepN (R := ⟨(f i).nl, lonS (f i)⟩) (Below.refl _ _) hrT hnT'.out hown2 hgr2 (by rw [World.size_alloc]; exact hloc2)
              rw [lonP_if] at hst
              obtain ⟨hst, m3, mz, hkp⟩ := hst
              have hqS : vS.ownBlock ≠ some q := fun e => by have := (hPT'.out.own.lt q e).1; omega
              have hwS : vS.ownBlock ≠ some w.heap.size := fun e => by have := (hPT'.out.own.lt _ e).1; omega
              have g0 : W2.cell? ⟨q, 0, none⟩ = some (.bool true) := (World.cell?_of_block (w := wT) (a := ⟨q, 0, none⟩) (hkp q lqT hqS)).trans c0T'
              have g1 : W2.cell? ⟨q, 1, none⟩ = some (.int .i64 (costSum f (i + 1))) := (World.cell?_of_block (w := wT) (a := ⟨q, 1, none⟩) (hkp q lqT hqS)).trans c1T
              have gz : W2.frozen? ⟨q, 1, none⟩ = false := (World.frozen?_of_block (w := wT) (a := ⟨q, 1, none⟩) (hkp q lqT hqS)).trans z1T
              have hB2 : Below w.heap.size w W2 := below_grown (Below.join hBT (Nat.le_refl _) hBA) hgr2 (by have := hBT.size; have := hBA.size; omega) (fun j hj => by have := (hPT'.out.own.lt j hj).1; omega)
              have hRm2 : Room w.heap.size 3 W2 := Room.grown (hRmT.below hBA (by omega)) hgr2 (fun k hk e => hwS (by rw [hk, e]))
              obtain ⟨gn, cn, rfl⟩ := Joins.ownsRow_form hown2 (by omega)
              have hst' : Hid _ := hst
              clear hst hown2 hgr2 hrT cT hBA hRo hkp
              go_wp2
              go_roundw
              case rel => exact ⟨i + 1, _, _, by omega, rfl, ⟨hst'.out, (cell_set_ne (by decide)).trans g0, (cell_set_ne (by decide)).trans g1, by rw [World.frozen?_setCell]; exact gz, hRm2.set ⟨q, 2, none⟩ _, hB2.setCell (p := ⟨q, 2, none⟩) hqw _⟩⟩
              case measure => simp only [intOf]; omega
            · go_simp
              go_at_call 38
              with_reducible refine (latenessP_any (f i) (endOf (f i)) la lc w1 hRt en0 (by omega)).mono ?_
              rintro _ w2 ⟨rfl, hB2⟩
              have hD2 := Below.join hD1 (Nat.le_refl _) hB2
              have hE2 := Below.join hE1 (Nat.le_refl _) hB2
              have y12 := cellLater hD2 y1
              go_wp2_with fail
              refine hK.out _ _ ⟨cellLater hD2 z0, cellLater hD2 z1, cellLater hD2 z2, cellLater hD2 z3, cellLater hD2 z4⟩ (fun hHeld => ?_)
              clear hK K
              (try simp only [Act.put, List.setIfInBounds_toArray, List.set_cons_zero, List.set_cons_succ])
              refine wpAnyH_ready (rs := [1]) (by kernel_rfl) (by simp) ?_
              refine AllReadyH.cons (o := { dst := some 55, op := Go.Op.load 3 (Go.Operand.tmp 54), type := 3, pos := "l3_best.go:123", after := #[{ on := 0, ground := Go.Ground.data }], guard := none }) rfl (fun K hK => ?_) AllReadyH.nil
              go_simp
              refine hK.out _ _ ⟨cellLater hD2 z0, cellLater hD2 z1, cellLater hD2 z2, cellLater hD2 z3, cellLater hD2 z4⟩ (fun hHeld => ?_)
              clear hK K
              (try simp only [Act.put, List.setIfInBounds_toArray, List.set_cons_zero, List.set_cons_succ])
              refine wpAnyH_ready (rs := [7]) (by kernel_rfl) (by simp) ?_
              refine AllReadyH.cons (o := { dst := some 61, op := Go.Op.binOp Go.BinOp.add 3 (Go.Operand.tmp 55) (Go.Operand.tmp 60) 3, type := 3, pos := "l3_best.go:123", after := #[{ on := 1, ground := Go.Ground.data }, { on := 6, ground := Go.Ground.data }], guard := none }) rfl (fun K hK => ?_) AllReadyH.nil
              go_simp
              refine hK.out _ _ ⟨cellLater hD2 z0, cellLater hD2 z1, cellLater hD2 z2, cellLater hD2 z3, cellLater hD2 z4⟩ (fun hHeld => ?_)
              clear hK K
              (try simp only [Act.put, List.setIfInBounds_toArray, List.set_cons_zero, List.set_cons_succ])
              rw [wrap_cost co0 co2 la0 la1]
              refine wpAnyH_ready (rs := [8]) (by kernel_rfl) (by simp) ?_
              refine AllReadyH.cons (o := { dst := some 62, op := Go.Op.fieldAddr 47 (Go.Operand.tmp 3) 1, type := 0, pos := "l3_best.go:123", after := #[{ on := 0, ground := Go.Ground.phase }, { on := 1, ground := Go.Ground.phase }, { on := 2, ground := Go.Ground.phase }, { on := 3, ground := Go.Ground.phase }, { on := 4, ground := Go.Ground.phase }, { on := 5, ground := Go.Ground.phase }, { on := 6, ground := Go.Ground.phase }, { on := 7, ground := Go.Ground.phase }], guard := none }) rfl (fun K hK => ?_) AllReadyH.nil
              go_simp
              refine hK.out _ _ ⟨cellLater hD2 z0, cellLater hD2 z1, cellLater hD2 z2, cellLater hD2 z3, cellLater hD2 z4⟩ (fun hHeld => ?_)
              clear hK K
              (try simp only [Act.put, List.setIfInBounds_toArray, List.set_cons_zero, List.set_cons_succ])
              have yz12 : w2.frozen? ⟨q, 1, none⟩ = false := (hD2.frozen (ltCell y1)).trans yz1
              have hX : ∀ k v, W.cell? ⟨wo.heap.size, k, none⟩ = some v → (w2.setCell ⟨q, 1, none⟩ (.int .i64 (costSum f i + lateOf (f i) (endOf (f i))))).cell? ⟨wo.heap.size, k, none⟩ = some v := fun k v hc => (World.cell?_of_block (a := ⟨wo.heap.size, k, none⟩) (Below.heap_setCell w2 ⟨q, 1, none⟩ _ wo.heap.size (by dsimp only; omega))).trans (cellLater hD2 hc)
              refine wpAnyH_ready (rs := [9]) (by kernel_rfl) (by simp) ?_
              refine AllReadyH.cons (o := { dst := none, op := Go.Op.store 3 (Go.Operand.tmp 62) (Go.Operand.tmp 61), type := 0, pos := "l3_best.go:123", after := #[{ on := 8, ground := Go.Ground.data }, { on := 7, ground := Go.Ground.data }, { on := 6, ground := Go.Ground.chain }, { on := 0, ground := Go.Ground.phase }, { on := 1, ground := Go.Ground.phase }, { on := 2, ground := Go.Ground.phase }, { on := 3, ground := Go.Ground.phase }, { on := 4, ground := Go.Ground.phase }, { on := 5, ground := Go.Ground.phase }, { on := 6, ground := Go.Ground.phase }, { on := 7, ground := Go.Ground.phase }], guard := none }) rfl (fun K hK => ?_) AllReadyH.nil
              go_simp
              refine hK.out _ _ ⟨hX 0 _ z0, hX 1 _ z1, hX 2 _ z2, hX 3 _ z3, hX 4 _ z4⟩ (fun hHeld => ?_)
              clear hK K
              (try simp only [Act.put, List.setIfInBounds_toArray, List.set_cons_zero, List.set_cons_succ])
              refine wpAnyH_done (by kernel_rfl) ?_ _
              have hPT := ((hI'.out.put.later (Below.join hAW (Nat.le_refl _) hD2)).set (o' := 1) (by decide) (.int .i64 (costSum f i + lateOf (f i) (endOf (f i)))))
              have c0T := hI'.out.c0
              have c0T' : (w2.setCell ⟨q, 1, none⟩ (.int .i64 (costSum f i + lateOf (f i) (endOf (f i))))).cell? ⟨q, 0, none⟩ = some (.bool true) := (cell_set_ne (by decide)).trans (cellLater (Below.join hAW (Nat.le_refl _) hD2) c0T)
              have c1T : (w2.setCell ⟨q, 1, none⟩ (.int .i64 (costSum f i + lateOf (f i) (endOf (f i))))).cell? ⟨q, 1, none⟩ = some (.int .i64 (costSum f (i + 1))) := World.cell?_setCell_same _ _ _ y12
              have z1T : (w2.setCell ⟨q, 1, none⟩ (.int .i64 (costSum f i + lateOf (f i) (endOf (f i))))).frozen? ⟨q, 1, none⟩ = false := by rw [World.frozen?_setCell]; exact yz12
              have hBT : Below w.heap.size w (w2.setCell ⟨q, 1, none⟩ (.int .i64 (costSum f i + lateOf (f i) (endOf (f i))))) := (Below.join hBW (Nat.le_refl _) hD2).setCell (p := ⟨q, 1, none⟩) hqw _
              have hRmT : Room w.heap.size 3 (w2.setCell ⟨q, 1, none⟩ (.int .i64 (costSum f i + lateOf (f i) (endOf (f i))))) := (hI'.out.room.below (Below.join hAW (Nat.le_refl _) hD2) (by omega)).set ⟨q, 1, none⟩ _
              have hrT : (w2.setCell ⟨q, 1, none⟩ (.int .i64 (costSum f i + lateOf (f i) (endOf (f i))))).ownsRow (q + 1) 3 1 (.slice sa (f i).nl sc) (f i).nl (rowCells ⟨(f i).nl, lonS (f i)⟩) := Joins.ownsRow_le (ownsRow_setCell_below (ownsRow_later hown hE2) (show q < W.heap.size by omega) _) (by omega)
              have hnewT : ∀ y, (Value.slice sa (f i).nl sc).ownBlock = some y → vS.ownBlock ≠ some y ∧ ∀ k, k < i → (v k).ownBlock ≠ some y := fun y hy => by
                have h1 := (hown.lt y hy).1
                exact ⟨fun e => by have := (hI'.out.put.own.lt y e).2; omega, fun k hk e => by have := ((hI'.out.put.rows k hk).lt y e).2; omega⟩
              have lqT : q < (w2.setCell ⟨q, 1, none⟩ (.int .i64 (costSum f i + lateOf (f i) (endOf (f i))))).heap.size := ltCell c1T
              generalize hwT : w2.setCell ⟨q, 1, none⟩ (.int .i64 (costSum f i + lateOf (f i) (endOf (f i)))) = wT at hPT c0T' c1T z1T hBT hRmT hrT lqT ⊢
              have cT := hPT.c
              have hBA := b1 wT (.cells #[.slice sa (f i).nl sc] 23)
              have hRo := ownsRow_later hPT.own hBA
              have hPT' : Hid _ := hPT
              have hnT' : Hid _ := hnewT
              clear hwT hX hPT hnewT hD0 hD1 hD2 hE0 hE1 hE2 hEn y1 y10 y11 y12 yz1 yz12 hown hIr c0T z0 z1 z2 z3 z4 z5 z6
              go_wp2_with (at_builtin; refine wpList_append_own_at _ rfl _ _ 28 rfl (q + 1) 23 k0 _ 1 24 Tryz.underlying28 ki kz0 kz1 kz2 rfl (by decide) vS i ((List.range i).map v) rfl hRo ⟨_, 0, none⟩ 1 1 [.slice sa (f i).nl sc] rfl rfl cells1_lie (fun x hx => by simp at hx; subst hx; rfl) ?b1 ?b2 ?b3 ?_)
              case b1 => unfold maxLen; omega
              case b2 => omega
              case b3 => simp only [World.size_alloc]; omega
              intro v2 W2 hown2 hgr2 _ hloc2
              have hst := hPT'.out.stepN (R := ⟨(f i).nl, lonS (f i)⟩) (Below.refl _ _) hrT hnT'.out hown2 hgr2 (by rw [World.size_alloc]; exact hloc2)
              rw [lonP_if] at hst
              obtain ⟨hst, m3, mz, hkp⟩ := hst
              have hqS : vS.ownBlock ≠ some q := fun e => by have := (hPT'.out.own.lt q e).1; omega
              have hwS : vS.ownBlock ≠ some w.heap.size := fun e => by have := (hPT'.out.own.lt _ e).1; omega
              have g0 : W2.cell? ⟨q, 0, none⟩ = some (.bool true) := (World.cell?_of_block (w := wT) (a := ⟨q, 0, none⟩) (hkp q lqT hqS)).trans c0T'
              have g1 : W2.cell? ⟨q, 1, none⟩ = some (.int .i64 (costSum f (i + 1))) := (World.cell?_of_block (w := wT) (a := ⟨q, 1, none⟩) (hkp q lqT hqS)).trans c1T
              have gz : W2.frozen? ⟨q, 1, none⟩ = false := (World.frozen?_of_block (w := wT) (a := ⟨q, 1, none⟩) (hkp q lqT hqS)).trans z1T
              have hB2 : Below w.heap.size w W2 := below_grown (Below.join hBT (Nat.le_refl _) hBA) hgr2 (by have := hBT.size; have := hBA.size; omega) (fun j hj => by have := (hPT'.out.own.lt j hj).1; omega)
              have hRm2 : Room w.heap.size 3 W2 := Room.grown (hRmT.below hBA (by omega)) hgr2 (fun k hk e => hwS (by rw [hk, e]))
              obtain ⟨gn, cn, rfl⟩ := Joins.ownsRow_form hown2 (by omega)
              have hst' : Hid _ := hst
              clear hst hown2 hgr2 hrT cT hBA hRo hkp
              go_wp2
              go_roundw
              case rel => exact ⟨i + 1, _, _, by omega, rfl, ⟨hst'.out, (cell_set_ne (by decide)).trans g0, (cell_set_ne (by decide)).trans g1, by rw [World.frozen?_setCell]; exact gz, hRm2.set ⟨q, 2, none⟩ _, hB2.setCell (p := ⟨q, 2, none⟩) hqw _⟩⟩
              case measure => simp only [intOf]; omega
    · obtain rfl : i = np := by omega
      have c0 := hI.c0
      have c1 := hI.c1
      have c2 := hI.put.c
      obtain ⟨c, nc, rfl, hO⟩ := hI.put.ownP
      obtain ⟨r0, rm0, rz0⟩ := hI.room 0 (by omega)
      obtain ⟨r1, rm1, rz1⟩ := hI.room 1 (by omega)
      obtain ⟨r2, rm2, rz2⟩ := hI.room 2 (by omega)
      have hB := hI.below
      have hql : w.heap.size < q + 1 := by have := hq'.out; omega
      go_wp2
      refine bodyPost_ret (v := .agg #[.bool true, .int .i64 (costSum f i), .slice c i nc]) (by simp [results, Tryz.results46, go_sem, rm0, rm1, rm2]) rfl ⟨⟨c, nc, rfl, (((hO.set (p := ⟨w.heap.size, 0, none⟩) hql).set (p := ⟨w.heap.size, 1, none⟩) hql).set (p := ⟨w.heap.size, 2, none⟩) hql).low (by have := hq'.out; omega)⟩, ((hB.setCell (p := ⟨w.heap.size, 0, none⟩) (Nat.le_refl _) _).setCell (p := ⟨w.heap.size, 1, none⟩) (Nat.le_refl _) _).setCell (p := ⟨w.heap.size, 2, none⟩) (Nat.le_refl _) _⟩
end Go.Proofs.YtelickcfodcmaaaGreatDoor

namespace Go.Proofs.YtelickcfodcmaaaGreatDoor
open Go.RowKit

theorem OwnP.capsL {B0 : Nat} {W : World} {c : Option Addr} {np : Nat} {P : Nat → RowD} (h : OwnP B0 W c np P) : Caps W c np := fun j hj => by
  obtain ⟨gR, v, h1, h2, h3, _⟩ := h
  obtain ⟨e, hc, _⟩ := h2 j hj
  rcases (h3 j hj).2 with ⟨e0, h0⟩ | ⟨g, cp, cur, e0, hb, hg, hle, _⟩
  · exact ⟨gR, 0, none, 0, 0, e, by rw [Nat.zero_add, hc, e0], Nat.le_refl _⟩
  · exact ⟨gR, 0, some ⟨g, 0, none⟩, (P j).n, cp, e, by rw [Nat.zero_add, hc, e0], hle⟩
set_option maxRecDepth 20000 in
set_option maxHeartbeats 8000000 in
theorem implSolve_lon (a : Option Addr) (len cap : Nat) (g : Nat → Int) (gap : Int) (a' : Option Addr) (np cap' : Nat) (f : Nat → TrainD) (w : World) (hl : len ≤ 1048576) (hl' : np ≤ 1048576) (hml : ∀ j, j < np → (f j).nl ≤ 1048576)
    (hI : IsInts 0 w.heap.size w a len g) (hT : IsTrains 0 w.heap.size w a' np f) (hg : w.cell? ⟨0, 0, none⟩ = some (.iface 234 (.agg #[.pointer (some ⟨1, 165, none⟩)])))
    (hz : clashOf len g gap np f np (lonP f) = (0, 0, 0, 0)) :
    Calls Tryz.prog 15 #[.agg #[.slice a len cap, .int .i64 gap, .slice a' np cap']] w fun e w' => (∃ c nc, e = .returned (.agg #[.bool true, .int .i64 (costSum f np), .slice c np nc]) ∧ OwnP w.heap.size w' c np (lonP f)) ∧ Below w.heap.size w w' := by
  have hF := faultOf_snd (clashOf_ok hz).1
  have hR := rightL_of hF
  have hG := rightG_of hF
  have hn5 := hR.tr
  have h10 : ∀ j, j < np → (lonP f j).n ≤ 10 := fun j hj => (hR.train j hj).nl
  have hN := b2 w (.cells #[.slice a len cap, .int .i64 gap, .slice a' np cap'] 26) (.cells #[.bool false, .int .i64 0, .slice none 0 0] 47)
  obtain ⟨⟨y0, y1, y2⟩, _⟩ := box31 w a len cap gap a' np cap' 26 38
  clear y0 y1 y2
  have hA2 := b1 (w.alloc (.cells #[.slice a len cap, .int .i64 gap, .slice a' np cap'] 26)) (.cells #[.bool false, .int .i64 0, .slice none 0 0] 47)
  obtain ⟨y0, y1, y2⟩ := new3 w (.slice a len cap) (.int .i64 gap) (.slice a' np cap') 26
  replace y0 := cellLater hA2 y0
  replace y1 := cellLater hA2 y1
  replace y2 := cellLater hA2 y2
  have hRm : Room (w.heap.size + 1) 3 ((w.alloc (.cells #[.slice a len cap, .int .i64 gap, .slice a' np cap'] 26)).alloc (.cells #[.bool false, .int .i64 0, .slice none 0 0] 47)) := by
    have h := Room.lit (w.alloc (.cells #[.slice a len cap, .int .i64 gap, .slice a' np cap'] 26)) #[.bool false, .int .i64 0, .slice none 0 0] 47 3 (Nat.le_refl _)
    rwa [World.size_alloc] at h
  have lR : w.heap.size + 1 < ((w.alloc (.cells #[.slice a len cap, .int .i64 gap, .slice a' np cap'] 26)).alloc (.cells #[.bool false, .int .i64 0, .slice none 0 0] 47)).heap.size := by simp
  have hok := isRight_yes a len cap g gap a' np cap' f _ hl hl' hml (hI.grow hN) (hT.grow hN) (cellLater hN hg) hF
  clear hA2
  go_enter Tryz.func15, Tryz.ntmps15
  go_wp2_with (go_at_call 40; fail)
  refine hok.mono ?_
  rintro _ w2 ⟨rfl, hB2⟩
  have hBw := Below.join hN (Nat.le_refl _) hB2
  replace y0 := cellLater hB2 y0
  replace y1 := cellLater hB2 y1
  replace y2 := cellLater hB2 y2
  replace hRm := hRm.below hB2 lR
  have lR2 := Nat.lt_of_lt_of_le lR hB2.size
  clear hok hN hB2 lR
  go_wp2_with (go_at_call 41; fail)
  refine (newBoard_any a len cap gap a' np cap' w2 (by omega)).mono ?_
  rintro _ w3 ⟨B, gR, bT, bS, rfl, hHB, hHg, hHT, hHS, hd, hB3⟩
  have hBd := bd_new hHB hHg hHT hHS hd
  have hBw3 := Below.join hBw (Nat.le_refl _) hB3
  replace y0 := cellLater hB3 y0
  replace y1 := cellLater hB3 y1
  replace y2 := cellLater hB3 y2
  replace hRm := hRm.below hB3 lR2
  have lR3 := Nat.lt_of_lt_of_le lR2 hB3.size
  have hbn := bound_new B gR bT len a' np cap' f w3 hR (hT.grow hBw3) (fun i hi m hm => by
    have h := track_bd hR hG hi hm
    exact wf_small (x := trackOf (f i) m) (by omega) (by omega)) hBd.lp.l2.c2 hBd.lp.l2.c3 hBd.lp.l2.c4 hBd.c5 hBd.kT (fun j hj => (hBd.lp.row j hj).2.1)
  clear hBd hHB hHg hHT hHS hd hB3 hBw
  go_wp2_with (go_at_call 46; fail)
  refine hbn.mono ?_
  rintro _ w4 ⟨⟨c, nc, rfl, hO⟩, hB4⟩
  have hA4 := b1 w4 (.cells #[.bool true, .int .i64 (costSum f np), .slice c np nc] 47)
  obtain ⟨t0, t1, t2⟩ := new3 w4 (.bool true) (.int .i64 (costSum f np)) (.slice c np nc) 47
  have hC4 := Below.join hB4 (Nat.le_refl _) hA4
  have hBw4 := Below.join hBw3 (Nat.le_refl _) hC4
  replace y0 := cellLater hC4 y0
  replace y1 := cellLater hC4 y1
  replace y2 := cellLater hC4 y2
  replace hRm := hRm.below hC4 lR3
  have lR4 := Nat.lt_of_lt_of_le lR3 hC4.size
  have hO4 := hO.same (fun k _ hk => hA4.block k hk)
  have hCk := implCheck_any a len cap g gap a' np cap' f c np nc (lonP f) _ hl hl' hml hl' (fun j hj => by have := h10 j hj; omega) (hI.grow hBw4) (hT.grow hBw4) ((hO4.rows h10).mono (Nat.zero_le _) (Nat.le_refl _)) hO4.capsL (cellLater hBw4 hg)
  rw [hz] at hCk
  clear hbn hO hB4 hA4 hC4 hz hBw3
  go_wp2_with (go_at_call 7; fail)
  refine hCk.mono ?_
  rintro _ w5 ⟨rfl, hB5⟩
  unfold clashV
  replace t0 := cellLater hB5 t0
  replace t1 := cellLater hB5 t1
  replace t2 := cellLater hB5 t2
  replace hRm := hRm.below hB5 lR4
  have hO5 := hO4.same (fun k _ hk => hB5.block k hk)
  have hBw5 := Below.join hBw4 (Nat.le_refl _) hB5
  obtain ⟨r0, rm0, rz0⟩ := hRm 0 (by omega)
  obtain ⟨r1, rm1, rz1⟩ := hRm 1 (by omega)
  obtain ⟨r2, rm2, rz2⟩ := hRm 2 (by omega)
  clear hCk hO4 hB5 hBw4 y0 y1 y2
  go_wp2
  refine bodyPost_ret (v := .agg #[.bool true, .int .i64 (costSum f np), .slice c np nc]) (by simp [results, Tryz.results15, go_sem, rm0, rm1, rm2]) rfl ⟨⟨c, nc, rfl, (((hO5.set (p := ⟨w.heap.size + 1, 0, none⟩) lR3).set (p := ⟨w.heap.size + 1, 1, none⟩) lR3).set (p := ⟨w.heap.size + 1, 2, none⟩) lR3).low (by omega)⟩, ((hBw5.setCell (p := ⟨w.heap.size + 1, 0, none⟩) (by dsimp only; omega) _).setCell (p := ⟨w.heap.size + 1, 1, none⟩) (by dsimp only; omega) _).setCell (p := ⟨w.heap.size + 1, 2, none⟩) (by dsimp only; omega) _⟩
end Go.Proofs.YtelickcfodcmaaaGreatDoor
