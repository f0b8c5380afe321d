/-
  The draws of the model: a line, its tracks.
  The draws of the model: a line as it is drawn, for a law.
  The draws of the model: an order.
  The plan of an order, step by step, as plain data.
  The model's record of what is placed, made anew.
  A plan of the call's own: its rows, no two in one block.
  The plan of an order: what a Place answers, and how that lies.
-/
import Derived.Test.YtelickcfodcmaaaGreatDoorGB
import Derived.Deep.RegionHeld3
import Derived.Maps.AppendAt
import Derived.Test.YtelickcfodcmaaaGreatDoorPlainQ
import Derived.Test.YtelickcfodcmaaaGreatDoorPlainH
import Derived.Test.YtelickcfodcmaaaGreatDoorSpecU
import Derived.Test.YtelickcfodcmaaaGreatDoorTo
namespace Go.Proofs.YtelickcfodcmaaaGreatDoor
open Go.RowKit

theorem LBox.track {B0 bl : Nat} {W W1 : World} {tr : List Int} {gap z : Int} {vt v' : Value} (h : LBox B0 bl W tr gap [] vt (.slice none 0 0)) (ho : W1.ownsRow B0 3 1 v' (tr.length + 1) (intCells tr ++ [.int .i64 z])) (hg : W.grownBy W1 vt.ownBlock) : LBox B0 bl (W1.setCell ⟨bl, 0, none⟩ v') (tr ++ [z]) gap [] v' (.slice none 0 0) := by
  have hlt := h.lt
  have hlb := ltCell h.c0
  dsimp only at hlb
  have hb : W1.heap[bl]? = W.heap[bl]? := hg.block bl hlb (fun e => by have := (h.own.ints.lt bl e.symm).1; omega)
  have cc : ∀ o u, W.cell? ⟨bl, o, none⟩ = some u → W1.cell? ⟨bl, o, none⟩ = some u := fun o u hu => (World.cell?_of_block (w := W) (w' := W1) (a := ⟨bl, o, none⟩) hb).trans hu
  have zz : ∀ o, W.frozen? ⟨bl, o, none⟩ = false → W1.frozen? ⟨bl, o, none⟩ = false := fun o hu => (World.frozen?_of_block (w := W) (w' := W1) (a := ⟨bl, o, none⟩) hb).trans hu
  refine ⟨World.cell?_setCell_same _ _ _ (cc 0 _ h.c0), (cell_set_ne (by omega)).trans (cc 1 _ h.c1), (cell_set_ne (by omega)).trans (cc 2 _ h.c2), (World.frozen?_setCell ..).trans (zz 0 h.z0), (World.frozen?_setCell ..).trans (zz 1 h.z1), (World.frozen?_setCell ..).trans (zz 2 h.z2), hlt, ⟨?_, OwnT.nil _ _, fun k _ e => by simp [Value.ownBlock] at e, fun x hx => absurd hx List.not_mem_nil⟩⟩
  rw [intCells_snoc, List.length_append]
  exact ownsRow_setCell_below ho hlt _

/-- what a draw of a line answers -/
def DrawPost (w0 : World) (b k : Nat) (w : World) (e : Ending) (w' : World) : Prop := ∃ l : LnL, DrawnL l ∧ (∃ L at_ ct aT cT, l.trains = L.map Prod.fst ∧ e = .returned (.agg #[.slice at_ l.tracks.length ct, .int .i64 l.gap, .slice aT L.length cT]) ∧ LOwn w.heap.size w' l.tracks L (.slice at_ l.tracks.length ct) (.slice aT L.length cT)) ∧ Cur w0 b (k + 1000) w' ∧ Mid b (b + 1) w w'
set_option maxRecDepth 20000 in
set_option maxHeartbeats 8000000 in
theorem drawLine_any (w0 : World) (b k : Nat) (most : Int) (w : World) (hk : k ≤ 1000) (hm0 : 2 ≤ most) (hm1 : most ≤ 9) (hC : Cur w0 b k w) :
    Calls Tryz.prog 19 #[.pointer (some ⟨b, 0, none⟩), .int .i64 most] w (DrawPost w0 b k w) := by
  have hblt : b < w.heap.size := hC.lt
  have hA := b1 w (.cells #[.slice none 0 0, .int .i64 0, .slice none 0 0] 26)
  have hroom : Room w.heap.size 3 (w.alloc (.cells #[.slice none 0 0, .int .i64 0, .slice none 0 0] 26)) := Room.lit _ _ _ 3 (by simp)
  have hMA : Mid b (b + 1) w (w.alloc (.cells #[.slice none 0 0, .int .i64 0, .slice none 0 0] 26)) := Mid.ofBelow hA (by omega)
  have hP1 := pick_any w0 b k 5 _ (by omega) (by decide) (hC.later hA)
  have hsA : (w.alloc (.cells #[.slice none 0 0, .int .i64 0, .slice none 0 0] 26)).heap.size = w.heap.size + 1 := by simp
  go_enter Tryz.func19, Tryz.ntmps19
  go_wp2_with (go_at_call 21; with_reducible refine hP1.mono ?_; rintro _ w1 ⟨gp, rfl, hg0, hg1, hC1, hM1⟩)
  have hs1 := hM1.below.size
  have hroom1 := hroom.keep hM1
  have hN1 := b1 w1 (.cells #[.slice none 0 0, .int .i64 gp, .slice none 0 0] 26)
  have hP2 := pick_any w0 b (k + 2) 4 _ (by omega) (by decide) (hC1.later hN1)
  refine hP2.mono ?_
  rintro _ w2 ⟨x2, rfl, hx0, hx1, hC2, hM2⟩
  have hN := hx1
  have hs2 := hM2.below.size
  have hLB : LBox (w1.heap.size + 1) w1.heap.size (w1.alloc (.cells #[.slice none 0 0, .int .i64 gp, .slice none 0 0] 26)) [] gp [] (.slice none 0 0) (.slice none 0 0) := by
    refine ⟨?_, ?_, ?_, ?_, ?_, ?_, by omega, ⟨World.ownsRow_nil _ _ _ _, OwnT.nil _ _, fun k e => by simp [Value.ownBlock] at e, fun x hx => absurd hx List.not_mem_nil⟩⟩
    all_goals simp
  have hsN : (w1.alloc (.cells #[.slice none 0 0, .int .i64 gp, .slice none 0 0] 26)).heap.size = w1.heap.size + 1 := by simp
  have hb1 : b < w1.heap.size := by omega
  have hLB2 := hLB.mid hM2 hb1
  have hMd2 : Mid b (b + 1) w w2 := ((hMA.trans hM1).trans (Mid.ofBelow hN1 (by omega))).trans hM2
  have hroom2 := (hroom1.keep (Mid.ofBelow (lo := 0) (hi := 0) hN1 (Nat.zero_le _))).keep hM2
  obtain ⟨N, hN0⟩ : ∃ N : Nat, 2 + x2 = (N : Int) := ⟨(2 + x2).toNat, by omega⟩
  have hN1' : 2 ≤ N ∧ N ≤ 5 := by omega
  obtain ⟨bl, hbl0⟩ : ∃ bl, bl = w1.heap.size := ⟨_, rfl⟩
  rw [← hbl0] at hLB2 ⊢
  have hblb : b < bl := by omega
  have hblw : w.heap.size < bl := by omega
  clear hbl0 hLB hC1 hM1 hN1 hP1 hP2 hroom hroom1 hMA hA hsA hs1 hs2 hM2 hC hsN hb1
  go_wp2
  go_loopw [6] (fun cc wr => ∃ (c kk : Nat) (tr : List Int) (vt : Value), cc = .int .i64 c ∧ tr.length + c = N ∧ kk ≤ k + 4 + 4 * tr.length ∧ (∀ z ∈ tr, 1 ≤ z ∧ z ≤ 3) ∧ LBox (bl + 1) bl wr tr gp [] vt (.slice none 0 0) ∧ Cur w0 b kk wr ∧ Mid b (b + 1) w wr ∧ Room w.heap.size 3 wr) (fun cc _ => (intOf cc).toNat)
  case atStart => exact ⟨N, k + 4, [], _, rfl, by simp, by simp, fun z hz => absurd hz List.not_mem_nil, hLB2, hC2.more (by omega), hMd2, hroom2⟩
  case round =>
    obtain ⟨c, kk, tr, vt, rfl, htc, hkk, htr, hLBr, hCr, hMr, hroomr⟩ := hrel
    by_cases hc : 0 < c
    · have hc' : (0 : Int) < (c : Int) := by omega
      obtain ⟨at_, ct, rfl, _⟩ := ownInts hLBr.own.ints
      obtain ⟨i0, ii, iz0, iz1, iz2⟩ := info3 Tryz.infoInt
      have hbd : Below wr.heap.size wr wr.drew := (Below.refl _ wr).drew
      have hLBd := hLBr.later hbd
      have q0 := hLBr.c0
      have hK1 := pick_any w0 b kk 3 wr.drew (by omega) (by decide) (hCr.later hbd)
      go_wp2
      refine wp_region_held_drew (S := (fun _ => True)) (by kernel_rfl) trivial (fun hHeld => ?_)
      refine wpAnyH_take (i := 0) (oi := { dst := some 25, op := Go.Op.fieldAddr 26 (Go.Operand.tmp 5) 0, type := 0, pos := "l5_draw.go:51", after := #[], guard := none }) (v := ?vv1_0) rfl (by kernel_rfl) (by kernel_rfl) (by kernel_rfl) (fun _ _ _ h => h) (Or.inl ⟨by rfl, ?hy1_0⟩) (by assumption) ?rest1_0
      case hy1_0 =>
        intro w hSw
        (try dsimp only at hSw)
        go_simp
        (try with_reducible rfl)
      simp only [Act.put, List.setIfInBounds_toArray, List.set_cons_zero, List.set_cons_succ]
      refine wpAnyH_take (i := 2) (oi := { dst := some 27, op := Go.Op.move (Go.Operand.tmp 0), type := 52, pos := "l5_draw.go:51", after := #[], guard := none }) (v := ?vv2_2) rfl (by kernel_rfl) (by kernel_rfl) (by kernel_rfl) (fun _ _ _ h => h) (Or.inl ⟨by rfl, ?hy2_2⟩) (by assumption) ?rest2_2
      case hy2_2 =>
        intro w hSw
        (try dsimp only at hSw)
        go_simp
        (try with_reducible rfl)
      simp only [Act.put, List.setIfInBounds_toArray, List.set_cons_zero, List.set_cons_succ]
      refine wpAnyH_take (i := 4) (oi := { dst := some 29, op := Go.Op.move (Go.Operand.tmp 0), type := 52, pos := "l5_draw.go:51", after := #[], guard := none }) (v := ?vv3_4) rfl (by kernel_rfl) (by kernel_rfl) (by kernel_rfl) (fun _ _ _ h => h) (Or.inl ⟨by rfl, ?hy3_4⟩) (by assumption) ?rest3_4
      case hy3_4 =>
        intro w hSw
        (try dsimp only at hSw)
        go_simp
        (try with_reducible rfl)
      simp only [Act.put, List.setIfInBounds_toArray, List.set_cons_zero, List.set_cons_succ]
      refine wpAnyH_ready (rs := [1, 3]) (by kernel_rfl) (by simp) ?_
      refine AllReadyH.cons (o := { dst := some 26, op := Go.Op.load 23 (Go.Operand.tmp 25), type := 23, pos := "l5_draw.go:51", after := #[{ on := 0, ground := Go.Ground.data }], guard := none }) rfl (fun K hK => ?_) (AllReadyH.cons (o := { dst := some 28, op := Go.Op.call { callee := Go.Callee.value (Go.Operand.func 21), args := #[Go.Operand.tmp 27, Go.Operand.const (Go.Value.int Go.IntKind.i64 3)], argTypes := #[52, 3] }, type := 3, pos := "l5_draw.go:51", after := #[{ on := 2, ground := Go.Ground.data }], guard := none }) rfl (fun K hK => ?_) AllReadyH.nil)
      go_simp
      refine hK.out _ _ trivial (fun hHeld => ?_)
      clear hK K
      (try simp only [Act.put, List.setIfInBounds_toArray, List.set_cons_zero, List.set_cons_succ])
      refine wpAnyH_ready (rs := [3]) (by kernel_rfl) (by simp) ?_
      refine AllReadyH.cons (o := { dst := some 28, op := Go.Op.call { callee := Go.Callee.value (Go.Operand.func 21), args := #[Go.Operand.tmp 27, Go.Operand.const (Go.Value.int Go.IntKind.i64 3)], argTypes := #[52, 3] }, type := 3, pos := "l5_draw.go:51", after := #[{ on := 2, ground := Go.Ground.data }], guard := none }) rfl (fun K hK => ?_) AllReadyH.nil
      go_simp
      refine hK1.mono ?_
      rintro _ w3 ⟨x, rfl, hx30, hx31, hC3, hM3⟩
      have hLB3 := hLBd.mid hM3 hblb
      have q3 := hLB3.c0
      have hK2 := pick_any w0 b (kk + 2) 2 w3 (by omega) (by decide) hC3
      refine hK.out _ _ trivial (fun hHeld => ?_)
      clear hK K
      (try simp only [Act.put, List.setIfInBounds_toArray, List.set_cons_zero, List.set_cons_succ])
      refine wpAnyH_ready (rs := [5]) (by kernel_rfl) (by simp) ?_
      refine AllReadyH.cons (o := { dst := some 30, op := Go.Op.call { callee := Go.Callee.value (Go.Operand.func 21), args := #[Go.Operand.tmp 29, Go.Operand.const (Go.Value.int Go.IntKind.i64 2)], argTypes := #[52, 3] }, type := 3, pos := "l5_draw.go:51", after := #[{ on := 4, ground := Go.Ground.data }, { on := 3, ground := Go.Ground.chain }], guard := none }) rfl (fun K hK => ?_) AllReadyH.nil
      go_simp
      refine hK2.mono ?_
      rintro _ w4 ⟨y, rfl, hy0, hy1, hC4, hM4⟩
      have hLB4 := hLB3.mid hM4 hblb
      have q4 := hLB4.c0
      have hxy0 : 0 ≤ x * y := Int.mul_nonneg hx30 hy0
      have hxy1 : x * y ≤ 2 := by
        rcases hy1 with hy1 | rfl
        · have : y = 0 ∨ y = 1 := by omega
          rcases this with rfl | rfl <;> omega
        · omega
      have hwp : IntKind.i64.wrap (x * y) = x * y := by rw [IntKind.wrap_i64]; omega
      have hwq : IntKind.i64.wrap (1 + x * y) = 1 + x * y := by rw [IntKind.wrap_i64]; omega
      have hA9 := b1 w4 (.cells #[.int .i64 (1 + x * y)] 3)
      have hLBA := hLB4.later hA9
      have q4' := hLBA.c0
      have hsz4 := ltCell hLB4.c0
      dsimp only at hsz4
      obtain ⟨v', W1, hap, hown1, hgr1, _, hloc1⟩ := run_append_own_at (P := Tryz.prog) (w4.alloc (.cells #[.int .i64 (1 + x * y)] 3)) (bl + 1) 23 23 3 i0 _ 1 8 Tryz.underlying23 ii iz0 iz1 iz2 rfl (by decide) (.slice at_ tr.length ct) tr.length (intCells tr) hLBA.own.ints ⟨w4.heap.size, 0, none⟩ 1 1 [.int .i64 (1 + x * y)] rfl cells1_lie one1 (by unfold maxLen; omega) (by omega) (by simp only [World.size_alloc]; omega)
      have hap' : Hid _ := hap
      obtain ⟨gn, cn, rfl⟩ := Joins.ownsRow_form hown1 (by omega)
      have hbk : W1.heap[bl]? = _ := hgr1.block bl (ltCell hLBA.c0) (fun e => by have := (hLBA.own.ints.lt bl e.symm).1; omega)
      have m3 := (World.cell?_of_block (w' := W1) (a := ⟨bl, 0, none⟩) hbk).trans hLBA.c0
      have mz := (World.frozen?_of_block (w' := W1) (a := ⟨bl, 0, none⟩) hbk).trans hLBA.z0
      clear hap hbk
      refine hK.out _ _ trivial (fun hHeld => ?_)
      clear hK K
      (try simp only [Act.put, List.setIfInBounds_toArray, List.set_cons_zero, List.set_cons_succ])
      refine wpAnyH_take (i := 6) (oi := { dst := some 31, op := Go.Op.binOp Go.BinOp.mul 3 (Go.Operand.tmp 28) (Go.Operand.tmp 30) 3, type := 3, pos := "l5_draw.go:51", after := #[{ on := 3, ground := Go.Ground.data }, { on := 5, ground := Go.Ground.data }], guard := none }) (v := ?vv4_6) rfl (by kernel_rfl) (by kernel_rfl) (by kernel_rfl) (fun _ _ _ h => h) (Or.inl ⟨by rfl, ?hy4_6⟩) (by assumption) ?rest4_6
      case hy4_6 =>
        intro w hSw
        (try dsimp only at hSw)
        go_simp
        (try with_reducible rfl)
      simp only [Act.put, List.setIfInBounds_toArray, List.set_cons_zero, List.set_cons_succ]
      refine wpAnyH_take (i := 7) (oi := { dst := some 32, op := Go.Op.binOp Go.BinOp.add 3 (Go.Operand.const (Go.Value.int Go.IntKind.i64 1)) (Go.Operand.tmp 31) 3, type := 3, pos := "l5_draw.go:51", after := #[{ on := 6, ground := Go.Ground.data }], guard := none }) (v := ?vv5_7) rfl (by kernel_rfl) (by kernel_rfl) (by kernel_rfl) (fun _ _ _ h => h) (Or.inl ⟨by rfl, ?hy5_7⟩) (by assumption) ?rest5_7
      case hy5_7 =>
        intro w hSw
        (try dsimp only at hSw)
        go_simp
        (try with_reducible rfl)
      simp only [Act.put, List.setIfInBounds_toArray, List.set_cons_zero, List.set_cons_succ]
      refine wpAnyH_ready (rs := [8]) (by kernel_rfl) (by simp) ?_
      refine AllReadyH.cons (o := { dst := some 33, op := Go.Op.buildSlice 23 1 #[(0, Go.Operand.tmp 32)], type := 23, pos := "l5_draw.go:51", after := #[{ on := 7, ground := Go.Ground.data }], guard := none }) rfl (fun K hK => ?_) AllReadyH.nil
      go_simp
      refine hK.out _ _ trivial (fun hHeld => ?_)
      clear hK K
      (try simp only [Act.put, List.setIfInBounds_toArray, List.set_cons_zero, List.set_cons_succ])
      refine wpAnyH_ready (rs := [9]) (by kernel_rfl) (by simp) ?_
      refine AllReadyH.cons (o := { dst := some 34, op := Go.Op.call { callee := Go.Callee.builtin Go.Builtin.append, args := #[Go.Operand.tmp 26, Go.Operand.tmp 33], argTypes := #[23, 23] }, type := 23, pos := "l5_draw.go:51", after := #[{ on := 1, ground := Go.Ground.data }, { on := 8, ground := Go.Ground.data }, { on := 5, ground := Go.Ground.chain }], guard := none }) rfl (fun K hK => ?_) AllReadyH.nil
      refine step_append_eq _ (by rfl) _ _ _ (by rfl) _ _ _ _ (by rfl) (by rfl) hap'.out ?_
      refine hK.out _ _ trivial (fun hHeld => ?_)
      clear hK K
      (try simp only [Act.put, List.setIfInBounds_toArray, List.set_cons_zero, List.set_cons_succ])
      refine wpAnyH_take (i := 10) (oi := { dst := some 35, op := Go.Op.fieldAddr 26 (Go.Operand.tmp 5) 0, type := 0, pos := "l5_draw.go:51", after := #[{ on := 0, ground := Go.Ground.phase }, { on := 1, ground := Go.Ground.phase }, { on := 2, ground := Go.Ground.phase }, { on := 3, ground := Go.Ground.phase }, { on := 4, ground := Go.Ground.phase }, { on := 5, ground := Go.Ground.phase }, { on := 6, ground := Go.Ground.phase }, { on := 7, ground := Go.Ground.phase }, { on := 8, ground := Go.Ground.phase }, { on := 9, ground := Go.Ground.phase }], guard := none }) (v := ?vv6_10) rfl (by kernel_rfl) (by kernel_rfl) (by kernel_rfl) (fun _ _ _ h => h) (Or.inl ⟨by rfl, ?hy6_10⟩) (by assumption) ?rest6_10
      case hy6_10 =>
        intro w hSw
        (try dsimp only at hSw)
        go_simp
        (try with_reducible rfl)
      simp only [Act.put, List.setIfInBounds_toArray, List.set_cons_zero, List.set_cons_succ]
      refine wpAnyH_ready (rs := [11]) (by kernel_rfl) (by simp) ?_
      refine AllReadyH.cons (o := { dst := none, op := Go.Op.store 23 (Go.Operand.tmp 35) (Go.Operand.tmp 34), type := 0, pos := "l5_draw.go:51", after := #[{ on := 10, ground := Go.Ground.data }, { on := 9, ground := Go.Ground.data }, { on := 9, ground := Go.Ground.chain }, { on := 0, ground := Go.Ground.phase }, { on := 1, ground := Go.Ground.phase }, { on := 2, ground := Go.Ground.phase }, { on := 3, ground := Go.Ground.phase }, { on := 4, ground := Go.Ground.phase }, { on := 5, ground := Go.Ground.phase }, { on := 6, ground := Go.Ground.phase }, { on := 7, ground := Go.Ground.phase }, { on := 8, ground := Go.Ground.phase }, { on := 9, ground := Go.Ground.phase }], guard := none }) rfl (fun K hK => ?_) AllReadyH.nil
      go_simp
      refine hK.out _ _ trivial (fun hHeld => ?_)
      clear hK K
      (try simp only [Act.put, List.setIfInBounds_toArray, List.set_cons_zero, List.set_cons_succ])
      refine wpAnyH_done (by kernel_rfl) ?_ _
      rotate_left
      go_simp
      refine hK1.mono ?_
      rintro _ w3 ⟨x, rfl, hx30, hx31, hC3, hM3⟩
      have hLB3 := hLBd.mid hM3 hblb
      have q3 := hLB3.c0
      have hK2 := pick_any w0 b (kk + 2) 2 w3 (by omega) (by decide) hC3
      refine hK.out _ _ trivial (fun hHeld => ?_)
      clear hK K
      (try simp only [Act.put, List.setIfInBounds_toArray, List.set_cons_zero, List.set_cons_succ])
      refine wpAnyH_ready (rs := [1, 5]) (by kernel_rfl) (by simp) ?_
      refine AllReadyH.cons (o := { dst := some 26, op := Go.Op.load 23 (Go.Operand.tmp 25), type := 23, pos := "l5_draw.go:51", after := #[{ on := 0, ground := Go.Ground.data }], guard := none }) rfl (fun K hK => ?_) (AllReadyH.cons (o := { dst := some 30, op := Go.Op.call { callee := Go.Callee.value (Go.Operand.func 21), args := #[Go.Operand.tmp 29, Go.Operand.const (Go.Value.int Go.IntKind.i64 2)], argTypes := #[52, 3] }, type := 3, pos := "l5_draw.go:51", after := #[{ on := 4, ground := Go.Ground.data }, { on := 3, ground := Go.Ground.chain }], guard := none }) rfl (fun K hK => ?_) AllReadyH.nil)
      go_simp
      refine hK.out _ _ trivial (fun hHeld => ?_)
      clear hK K
      (try simp only [Act.put, List.setIfInBounds_toArray, List.set_cons_zero, List.set_cons_succ])
      refine wpAnyH_ready (rs := [5]) (by kernel_rfl) (by simp) ?_
      refine AllReadyH.cons (o := { dst := some 30, op := Go.Op.call { callee := Go.Callee.value (Go.Operand.func 21), args := #[Go.Operand.tmp 29, Go.Operand.const (Go.Value.int Go.IntKind.i64 2)], argTypes := #[52, 3] }, type := 3, pos := "l5_draw.go:51", after := #[{ on := 4, ground := Go.Ground.data }, { on := 3, ground := Go.Ground.chain }], guard := none }) rfl (fun K hK => ?_) AllReadyH.nil
      go_simp
      refine hK2.mono ?_
      rintro _ w4 ⟨y, rfl, hy0, hy1, hC4, hM4⟩
      have hLB4 := hLB3.mid hM4 hblb
      have q4 := hLB4.c0
      have hxy0 : 0 ≤ x * y := Int.mul_nonneg hx30 hy0
      have hxy1 : x * y ≤ 2 := by
        rcases hy1 with hy1 | rfl
        · have : y = 0 ∨ y = 1 := by omega
          rcases this with rfl | rfl <;> omega
        · omega
      have hwp : IntKind.i64.wrap (x * y) = x * y := by rw [IntKind.wrap_i64]; omega
      have hwq : IntKind.i64.wrap (1 + x * y) = 1 + x * y := by rw [IntKind.wrap_i64]; omega
      have hA9 := b1 w4 (.cells #[.int .i64 (1 + x * y)] 3)
      have hLBA := hLB4.later hA9
      have q4' := hLBA.c0
      have hsz4 := ltCell hLB4.c0
      dsimp only at hsz4
      obtain ⟨v', W1, hap, hown1, hgr1, _, hloc1⟩ := run_append_own_at (P := Tryz.prog) (w4.alloc (.cells #[.int .i64 (1 + x * y)] 3)) (bl + 1) 23 23 3 i0 _ 1 8 Tryz.underlying23 ii iz0 iz1 iz2 rfl (by decide) (.slice at_ tr.length ct) tr.length (intCells tr) hLBA.own.ints ⟨w4.heap.size, 0, none⟩ 1 1 [.int .i64 (1 + x * y)] rfl cells1_lie one1 (by unfold maxLen; omega) (by omega) (by simp only [World.size_alloc]; omega)
      have hap' : Hid _ := hap
      obtain ⟨gn, cn, rfl⟩ := Joins.ownsRow_form hown1 (by omega)
      have hbk : W1.heap[bl]? = _ := hgr1.block bl (ltCell hLBA.c0) (fun e => by have := (hLBA.own.ints.lt bl e.symm).1; omega)
      have m3 := (World.cell?_of_block (w' := W1) (a := ⟨bl, 0, none⟩) hbk).trans hLBA.c0
      have mz := (World.frozen?_of_block (w' := W1) (a := ⟨bl, 0, none⟩) hbk).trans hLBA.z0
      clear hap hbk
      refine hK.out _ _ trivial (fun hHeld => ?_)
      clear hK K
      (try simp only [Act.put, List.setIfInBounds_toArray, List.set_cons_zero, List.set_cons_succ])
      refine wpAnyH_take (i := 6) (oi := { dst := some 31, op := Go.Op.binOp Go.BinOp.mul 3 (Go.Operand.tmp 28) (Go.Operand.tmp 30) 3, type := 3, pos := "l5_draw.go:51", after := #[{ on := 3, ground := Go.Ground.data }, { on := 5, ground := Go.Ground.data }], guard := none }) (v := ?vv7_6) rfl (by kernel_rfl) (by kernel_rfl) (by kernel_rfl) (fun _ _ _ h => h) (Or.inl ⟨by rfl, ?hy7_6⟩) (by assumption) ?rest7_6
      case hy7_6 =>
        intro w hSw
        (try dsimp only at hSw)
        go_simp
        (try with_reducible rfl)
      simp only [Act.put, List.setIfInBounds_toArray, List.set_cons_zero, List.set_cons_succ]
      refine wpAnyH_take (i := 7) (oi := { dst := some 32, op := Go.Op.binOp Go.BinOp.add 3 (Go.Operand.const (Go.Value.int Go.IntKind.i64 1)) (Go.Operand.tmp 31) 3, type := 3, pos := "l5_draw.go:51", after := #[{ on := 6, ground := Go.Ground.data }], guard := none }) (v := ?vv8_7) rfl (by kernel_rfl) (by kernel_rfl) (by kernel_rfl) (fun _ _ _ h => h) (Or.inl ⟨by rfl, ?hy8_7⟩) (by assumption) ?rest8_7
      case hy8_7 =>
        intro w hSw
        (try dsimp only at hSw)
        go_simp
        (try with_reducible rfl)
      simp only [Act.put, List.setIfInBounds_toArray, List.set_cons_zero, List.set_cons_succ]
      refine wpAnyH_ready (rs := [8]) (by kernel_rfl) (by simp) ?_
      refine AllReadyH.cons (o := { dst := some 33, op := Go.Op.buildSlice 23 1 #[(0, Go.Operand.tmp 32)], type := 23, pos := "l5_draw.go:51", after := #[{ on := 7, ground := Go.Ground.data }], guard := none }) rfl (fun K hK => ?_) AllReadyH.nil
      go_simp
      refine hK.out _ _ trivial (fun hHeld => ?_)
      clear hK K
      (try simp only [Act.put, List.setIfInBounds_toArray, List.set_cons_zero, List.set_cons_succ])
      refine wpAnyH_ready (rs := [9]) (by kernel_rfl) (by simp) ?_
      refine AllReadyH.cons (o := { dst := some 34, op := Go.Op.call { callee := Go.Callee.builtin Go.Builtin.append, args := #[Go.Operand.tmp 26, Go.Operand.tmp 33], argTypes := #[23, 23] }, type := 23, pos := "l5_draw.go:51", after := #[{ on := 1, ground := Go.Ground.data }, { on := 8, ground := Go.Ground.data }, { on := 5, ground := Go.Ground.chain }], guard := none }) rfl (fun K hK => ?_) AllReadyH.nil
      refine step_append_eq _ (by rfl) _ _ _ (by rfl) _ _ _ _ (by rfl) (by rfl) hap'.out ?_
      refine hK.out _ _ trivial (fun hHeld => ?_)
      clear hK K
      (try simp only [Act.put, List.setIfInBounds_toArray, List.set_cons_zero, List.set_cons_succ])
      refine wpAnyH_take (i := 10) (oi := { dst := some 35, op := Go.Op.fieldAddr 26 (Go.Operand.tmp 5) 0, type := 0, pos := "l5_draw.go:51", after := #[{ on := 0, ground := Go.Ground.phase }, { on := 1, ground := Go.Ground.phase }, { on := 2, ground := Go.Ground.phase }, { on := 3, ground := Go.Ground.phase }, { on := 4, ground := Go.Ground.phase }, { on := 5, ground := Go.Ground.phase }, { on := 6, ground := Go.Ground.phase }, { on := 7, ground := Go.Ground.phase }, { on := 8, ground := Go.Ground.phase }, { on := 9, ground := Go.Ground.phase }], guard := none }) (v := ?vv9_10) rfl (by kernel_rfl) (by kernel_rfl) (by kernel_rfl) (fun _ _ _ h => h) (Or.inl ⟨by rfl, ?hy9_10⟩) (by assumption) ?rest9_10
      case hy9_10 =>
        intro w hSw
        (try dsimp only at hSw)
        go_simp
        (try with_reducible rfl)
      simp only [Act.put, List.setIfInBounds_toArray, List.set_cons_zero, List.set_cons_succ]
      refine wpAnyH_ready (rs := [11]) (by kernel_rfl) (by simp) ?_
      refine AllReadyH.cons (o := { dst := none, op := Go.Op.store 23 (Go.Operand.tmp 35) (Go.Operand.tmp 34), type := 0, pos := "l5_draw.go:51", after := #[{ on := 10, ground := Go.Ground.data }, { on := 9, ground := Go.Ground.data }, { on := 9, ground := Go.Ground.chain }, { on := 0, ground := Go.Ground.phase }, { on := 1, ground := Go.Ground.phase }, { on := 2, ground := Go.Ground.phase }, { on := 3, ground := Go.Ground.phase }, { on := 4, ground := Go.Ground.phase }, { on := 5, ground := Go.Ground.phase }, { on := 6, ground := Go.Ground.phase }, { on := 7, ground := Go.Ground.phase }, { on := 8, ground := Go.Ground.phase }, { on := 9, ground := Go.Ground.phase }], guard := none }) rfl (fun K hK => ?_) AllReadyH.nil
      go_simp
      refine hK.out _ _ trivial (fun hHeld => ?_)
      clear hK K
      (try simp only [Act.put, List.setIfInBounds_toArray, List.set_cons_zero, List.set_cons_succ])
      refine wpAnyH_done (by kernel_rfl) ?_ _
      rotate_left
      go_simp
      refine hK2.mono ?_
      rintro _ w4 ⟨y, rfl, hy0, hy1, hC4, hM4⟩
      have hLB4 := hLB3.mid hM4 hblb
      have q4 := hLB4.c0
      have hxy0 : 0 ≤ x * y := Int.mul_nonneg hx30 hy0
      have hxy1 : x * y ≤ 2 := by
        rcases hy1 with hy1 | rfl
        · have : y = 0 ∨ y = 1 := by omega
          rcases this with rfl | rfl <;> omega
        · omega
      have hwp : IntKind.i64.wrap (x * y) = x * y := by rw [IntKind.wrap_i64]; omega
      have hwq : IntKind.i64.wrap (1 + x * y) = 1 + x * y := by rw [IntKind.wrap_i64]; omega
      have hA9 := b1 w4 (.cells #[.int .i64 (1 + x * y)] 3)
      have hLBA := hLB4.later hA9
      have q4' := hLBA.c0
      have hsz4 := ltCell hLB4.c0
      dsimp only at hsz4
      obtain ⟨v', W1, hap, hown1, hgr1, _, hloc1⟩ := run_append_own_at (P := Tryz.prog) (w4.alloc (.cells #[.int .i64 (1 + x * y)] 3)) (bl + 1) 23 23 3 i0 _ 1 8 Tryz.underlying23 ii iz0 iz1 iz2 rfl (by decide) (.slice at_ tr.length ct) tr.length (intCells tr) hLBA.own.ints ⟨w4.heap.size, 0, none⟩ 1 1 [.int .i64 (1 + x * y)] rfl cells1_lie one1 (by unfold maxLen; omega) (by omega) (by simp only [World.size_alloc]; omega)
      have hap' : Hid _ := hap
      obtain ⟨gn, cn, rfl⟩ := Joins.ownsRow_form hown1 (by omega)
      have hbk : W1.heap[bl]? = _ := hgr1.block bl (ltCell hLBA.c0) (fun e => by have := (hLBA.own.ints.lt bl e.symm).1; omega)
      have m3 := (World.cell?_of_block (w' := W1) (a := ⟨bl, 0, none⟩) hbk).trans hLBA.c0
      have mz := (World.frozen?_of_block (w' := W1) (a := ⟨bl, 0, none⟩) hbk).trans hLBA.z0
      clear hap hbk
      refine hK.out _ _ trivial (fun hHeld => ?_)
      clear hK K
      (try simp only [Act.put, List.setIfInBounds_toArray, List.set_cons_zero, List.set_cons_succ])
      refine wpAnyH_take (i := 6) (oi := { dst := some 31, op := Go.Op.binOp Go.BinOp.mul 3 (Go.Operand.tmp 28) (Go.Operand.tmp 30) 3, type := 3, pos := "l5_draw.go:51", after := #[{ on := 3, ground := Go.Ground.data }, { on := 5, ground := Go.Ground.data }], guard := none }) (v := ?vv10_6) rfl (by kernel_rfl) (by kernel_rfl) (by kernel_rfl) (fun _ _ _ h => h) (Or.inl ⟨by rfl, ?hy10_6⟩) (by assumption) ?rest10_6
      case hy10_6 =>
        intro w hSw
        (try dsimp only at hSw)
        go_simp
        (try with_reducible rfl)
      simp only [Act.put, List.setIfInBounds_toArray, List.set_cons_zero, List.set_cons_succ]
      refine wpAnyH_take (i := 7) (oi := { dst := some 32, op := Go.Op.binOp Go.BinOp.add 3 (Go.Operand.const (Go.Value.int Go.IntKind.i64 1)) (Go.Operand.tmp 31) 3, type := 3, pos := "l5_draw.go:51", after := #[{ on := 6, ground := Go.Ground.data }], guard := none }) (v := ?vv11_7) rfl (by kernel_rfl) (by kernel_rfl) (by kernel_rfl) (fun _ _ _ h => h) (Or.inl ⟨by rfl, ?hy11_7⟩) (by assumption) ?rest11_7
      case hy11_7 =>
        intro w hSw
        (try dsimp only at hSw)
        go_simp
        (try with_reducible rfl)
      simp only [Act.put, List.setIfInBounds_toArray, List.set_cons_zero, List.set_cons_succ]
      refine wpAnyH_ready (rs := [1, 8]) (by kernel_rfl) (by simp) ?_
      refine AllReadyH.cons (o := { dst := some 26, op := Go.Op.load 23 (Go.Operand.tmp 25), type := 23, pos := "l5_draw.go:51", after := #[{ on := 0, ground := Go.Ground.data }], guard := none }) rfl (fun K hK => ?_) (AllReadyH.cons (o := { dst := some 33, op := Go.Op.buildSlice 23 1 #[(0, Go.Operand.tmp 32)], type := 23, pos := "l5_draw.go:51", after := #[{ on := 7, ground := Go.Ground.data }], guard := none }) rfl (fun K hK => ?_) AllReadyH.nil)
      go_simp
      refine hK.out _ _ trivial (fun hHeld => ?_)
      clear hK K
      (try simp only [Act.put, List.setIfInBounds_toArray, List.set_cons_zero, List.set_cons_succ])
      refine wpAnyH_ready (rs := [8]) (by kernel_rfl) (by simp) ?_
      refine AllReadyH.cons (o := { dst := some 33, op := Go.Op.buildSlice 23 1 #[(0, Go.Operand.tmp 32)], type := 23, pos := "l5_draw.go:51", after := #[{ on := 7, ground := Go.Ground.data }], guard := none }) rfl (fun K hK => ?_) AllReadyH.nil
      go_simp
      refine hK.out _ _ trivial (fun hHeld => ?_)
      clear hK K
      (try simp only [Act.put, List.setIfInBounds_toArray, List.set_cons_zero, List.set_cons_succ])
      refine wpAnyH_ready (rs := [9]) (by kernel_rfl) (by simp) ?_
      refine AllReadyH.cons (o := { dst := some 34, op := Go.Op.call { callee := Go.Callee.builtin Go.Builtin.append, args := #[Go.Operand.tmp 26, Go.Operand.tmp 33], argTypes := #[23, 23] }, type := 23, pos := "l5_draw.go:51", after := #[{ on := 1, ground := Go.Ground.data }, { on := 8, ground := Go.Ground.data }, { on := 5, ground := Go.Ground.chain }], guard := none }) rfl (fun K hK => ?_) AllReadyH.nil
      refine step_append_eq _ (by rfl) _ _ _ (by rfl) _ _ _ _ (by rfl) (by rfl) hap'.out ?_
      refine hK.out _ _ trivial (fun hHeld => ?_)
      clear hK K
      (try simp only [Act.put, List.setIfInBounds_toArray, List.set_cons_zero, List.set_cons_succ])
      refine wpAnyH_take (i := 10) (oi := { dst := some 35, op := Go.Op.fieldAddr 26 (Go.Operand.tmp 5) 0, type := 0, pos := "l5_draw.go:51", after := #[{ on := 0, ground := Go.Ground.phase }, { on := 1, ground := Go.Ground.phase }, { on := 2, ground := Go.Ground.phase }, { on := 3, ground := Go.Ground.phase }, { on := 4, ground := Go.Ground.phase }, { on := 5, ground := Go.Ground.phase }, { on := 6, ground := Go.Ground.phase }, { on := 7, ground := Go.Ground.phase }, { on := 8, ground := Go.Ground.phase }, { on := 9, ground := Go.Ground.phase }], guard := none }) (v := ?vv12_10) rfl (by kernel_rfl) (by kernel_rfl) (by kernel_rfl) (fun _ _ _ h => h) (Or.inl ⟨by rfl, ?hy12_10⟩) (by assumption) ?rest12_10
      case hy12_10 =>
        intro w hSw
        (try dsimp only at hSw)
        go_simp
        (try with_reducible rfl)
      simp only [Act.put, List.setIfInBounds_toArray, List.set_cons_zero, List.set_cons_succ]
      refine wpAnyH_ready (rs := [11]) (by kernel_rfl) (by simp) ?_
      refine AllReadyH.cons (o := { dst := none, op := Go.Op.store 23 (Go.Operand.tmp 35) (Go.Operand.tmp 34), type := 0, pos := "l5_draw.go:51", after := #[{ on := 10, ground := Go.Ground.data }, { on := 9, ground := Go.Ground.data }, { on := 9, ground := Go.Ground.chain }, { on := 0, ground := Go.Ground.phase }, { on := 1, ground := Go.Ground.phase }, { on := 2, ground := Go.Ground.phase }, { on := 3, ground := Go.Ground.phase }, { on := 4, ground := Go.Ground.phase }, { on := 5, ground := Go.Ground.phase }, { on := 6, ground := Go.Ground.phase }, { on := 7, ground := Go.Ground.phase }, { on := 8, ground := Go.Ground.phase }, { on := 9, ground := Go.Ground.phase }], guard := none }) rfl (fun K hK => ?_) AllReadyH.nil
      go_simp
      refine hK.out _ _ trivial (fun hHeld => ?_)
      clear hK K
      (try simp only [Act.put, List.setIfInBounds_toArray, List.set_cons_zero, List.set_cons_succ])
      refine wpAnyH_done (by kernel_rfl) ?_ _
      rotate_left
      go_simp
      refine hK.out _ _ trivial (fun hHeld => ?_)
      clear hK K
      (try simp only [Act.put, List.setIfInBounds_toArray, List.set_cons_zero, List.set_cons_succ])
      refine wpAnyH_ready (rs := [1]) (by kernel_rfl) (by simp) ?_
      refine AllReadyH.cons (o := { dst := some 26, op := Go.Op.load 23 (Go.Operand.tmp 25), type := 23, pos := "l5_draw.go:51", after := #[{ on := 0, ground := Go.Ground.data }], guard := none }) rfl (fun K hK => ?_) AllReadyH.nil
      go_simp
      refine hK.out _ _ trivial (fun hHeld => ?_)
      clear hK K
      (try simp only [Act.put, List.setIfInBounds_toArray, List.set_cons_zero, List.set_cons_succ])
      refine wpAnyH_ready (rs := [9]) (by kernel_rfl) (by simp) ?_
      refine AllReadyH.cons (o := { dst := some 34, op := Go.Op.call { callee := Go.Callee.builtin Go.Builtin.append, args := #[Go.Operand.tmp 26, Go.Operand.tmp 33], argTypes := #[23, 23] }, type := 23, pos := "l5_draw.go:51", after := #[{ on := 1, ground := Go.Ground.data }, { on := 8, ground := Go.Ground.data }, { on := 5, ground := Go.Ground.chain }], guard := none }) rfl (fun K hK => ?_) AllReadyH.nil
      refine step_append_eq _ (by rfl) _ _ _ (by rfl) _ _ _ _ (by rfl) (by rfl) hap'.out ?_
      refine hK.out _ _ trivial (fun hHeld => ?_)
      clear hK K
      (try simp only [Act.put, List.setIfInBounds_toArray, List.set_cons_zero, List.set_cons_succ])
      refine wpAnyH_take (i := 10) (oi := { dst := some 35, op := Go.Op.fieldAddr 26 (Go.Operand.tmp 5) 0, type := 0, pos := "l5_draw.go:51", after := #[{ on := 0, ground := Go.Ground.phase }, { on := 1, ground := Go.Ground.phase }, { on := 2, ground := Go.Ground.phase }, { on := 3, ground := Go.Ground.phase }, { on := 4, ground := Go.Ground.phase }, { on := 5, ground := Go.Ground.phase }, { on := 6, ground := Go.Ground.phase }, { on := 7, ground := Go.Ground.phase }, { on := 8, ground := Go.Ground.phase }, { on := 9, ground := Go.Ground.phase }], guard := none }) (v := ?vv13_10) rfl (by kernel_rfl) (by kernel_rfl) (by kernel_rfl) (fun _ _ _ h => h) (Or.inl ⟨by rfl, ?hy13_10⟩) (by assumption) ?rest13_10
      case hy13_10 =>
        intro w hSw
        (try dsimp only at hSw)
        go_simp
        (try with_reducible rfl)
      simp only [Act.put, List.setIfInBounds_toArray, List.set_cons_zero, List.set_cons_succ]
      refine wpAnyH_ready (rs := [11]) (by kernel_rfl) (by simp) ?_
      refine AllReadyH.cons (o := { dst := none, op := Go.Op.store 23 (Go.Operand.tmp 35) (Go.Operand.tmp 34), type := 0, pos := "l5_draw.go:51", after := #[{ on := 10, ground := Go.Ground.data }, { on := 9, ground := Go.Ground.data }, { on := 9, ground := Go.Ground.chain }, { on := 0, ground := Go.Ground.phase }, { on := 1, ground := Go.Ground.phase }, { on := 2, ground := Go.Ground.phase }, { on := 3, ground := Go.Ground.phase }, { on := 4, ground := Go.Ground.phase }, { on := 5, ground := Go.Ground.phase }, { on := 6, ground := Go.Ground.phase }, { on := 7, ground := Go.Ground.phase }, { on := 8, ground := Go.Ground.phase }, { on := 9, ground := Go.Ground.phase }], guard := none }) rfl (fun K hK => ?_) AllReadyH.nil
      go_simp
      refine hK.out _ _ trivial (fun hHeld => ?_)
      clear hK K
      (try simp only [Act.put, List.setIfInBounds_toArray, List.set_cons_zero, List.set_cons_succ])
      refine wpAnyH_done (by kernel_rfl) ?_ _
      all_goals
        have hlow : ∀ k, (Value.slice at_ tr.length ct).ownBlock = some k → bl + 1 ≤ k := fun k hk => (hLBA.own.ints.lt k hk).1
        have hLB9 := hLBA.track hown1 hgr1
        have hMx : Mid b (b + 1) w (w4.alloc (.cells #[.int .i64 (1 + x * y)] 3)) := (((hMr.trans (Mid.ofBelow hbd (by have := hCr.lt; omega))).trans hM3).trans hM4).trans (Mid.ofBelow hA9 (by omega))
        have hM9 := (hMx.grown hgr1 (fun k hk => by have := hlow k hk; omega) (by omega)).setNew ⟨bl, 0, none⟩ (Nat.le_of_lt hblw) (by omega) (.slice (some ⟨gn, 0, none⟩) (tr.length + 1) cn)
        have hbkc : W1.heap[b]? = (w4.alloc (.cells #[.int .i64 (1 + x * y)] 3)).heap[b]? := hgr1.block b (by simp only [World.size_alloc]; omega) (fun e => by have := hlow b e.symm; omega)
        have hC9 : Cur w0 b (kk + 4) (W1.setCell ⟨bl, 0, none⟩ (.slice (some ⟨gn, 0, none⟩) (tr.length + 1) cn)) := (hC4.later hA9).same ((below_grown (hC4.later hA9).base hgr1 (by have := hC4.base.size; simp only [World.size_alloc]; omega) (fun k hk => by have := hlow k hk; have := hC4.lo; omega)).setCell (p := ⟨bl, 0, none⟩) (by have := hC4.lo; show w0.heap.size ≤ bl; omega) _) ((Below.heap_setCell W1 _ _ b (by show b ≠ bl; omega)).trans hbkc)
        have hr9 := ((((hroomr.keep (Mid.ofBelow (lo := 0) (hi := 0) hbd (Nat.zero_le _))).keep hM3).keep hM4).keep (Mid.ofBelow (lo := 0) (hi := 0) hA9 (Nat.zero_le _))).grown hgr1 (fun k hk => by have := hlow k hk; omega) |>.set ⟨bl, 0, none⟩ (.slice (some ⟨gn, 0, none⟩) (tr.length + 1) cn)
        go_wp2
        go_roundw
        case rel =>
          refine ⟨c - 1, kk + 4, tr ++ [1 + x * y], _, by rw [show ((c - 1 : Nat) : Int) = (c : Int) - 1 by omega], by rw [List.length_append]; simp; omega, by rw [List.length_append]; simp; omega, fun z hz => ?_, hLB9, hC9, hM9, hr9⟩
          rcases List.mem_append.1 hz with hz | hz
          · exact htr z hz
          · rw [List.mem_singleton] at hz; subst hz; omega
        case measure => simp [intOf] <;> omega
    · obtain rfl : c = 0 := by omega
      obtain ⟨at_, ct, rfl, _⟩ := ownInts hLBr.own.ints
      have q0 := hLBr.c0
      have hmb : most - 1 ≤ 100000 := by omega
      have hK3 := pick_any w0 b kk (most - 1) wr (by omega) hmb hCr
      go_wp2_with (go_at_call 21; with_reducible refine hK3.mono ?_; rintro _ w3 ⟨x3, rfl, hx30, hx31, hC3, hM3⟩)
      have hLB3 := hLBr.mid hM3 hblb
      have hroom3 := hroomr.keep hM3
      have hM03 := hMr.trans hM3
      have hlg0 : 2 ≤ 2 + x3 ∧ 2 + x3 ≤ most := by omega
      obtain ⟨lg, hlg⟩ : ∃ lg : Nat, 2 + x3 = (lg : Int) := ⟨(2 + x3).toNat, by omega⟩
      have hk3 : kk + 2 ≤ k + 30 := by omega
      have htl : tr.length = N := by omega
      have hgap : 0 ≤ gp ∧ gp ≤ 4 := by omega
      have hlg9 : lg ≤ 9 := by omega
      have hlg2 : 2 ≤ lg := by omega
      clear hK3 hLBr hCr hMr hroomr hM3 q0 hlg0 hc hLB2 hC2 hMd2 hroom2
      rw [hlg, htl]
      rename_i Kz az
      refine line_trains w0 b bl N k lg lg (kk + 2) tr gp (.slice at_ tr.length ct) w w3 Kz _ ?_ hk hN1' hlg9 hblb hblw hblt ⟨by simp, by simp, by simp; omega, fun x hx => absurd hx List.not_mem_nil, hLB3, hC3, hM03, hroom3⟩
      intro u9 u10 u11 u12 u13 u14 u44 u45 u46 u47 u48 u49 u50 u51 u52 u53 u54 u55 u56 u57 u58 u59 u60 u61 u62 u63 u64 u65 u66 u67 u68 u69 u70 u71 u72 u73 u74 u75 u76 u77 u78 u79 u80 u81 u82 u83 u84 u85 u86 u87 u88 u89 u90 u91 u92 u93 u94 u95 u96 u97 u98 u99 u100 u101 u102 u103 u104 u105 u106 u107 u108 u109 u110 u111 u112 u113 u114 u115 u116 u117 u118 u119 u120 u121 u122 u123 u124 u125 u126 u127 u128 c8 g kC L vT wr hT hex
      have hLBr := hT.box
      have hCr := hT.cur
      have hMr := hT.mid
      have hL5 := hT.len
      have hsum := hT.sum
      have hkC := hT.more
      have hdr := hT.dr
      obtain ⟨aT, cT, rfl, _⟩ := hLBr.own.trs.trains (fun x hx => by
        have h1 : x.1.legs.length ≤ (L.map fun x => x.1.legs.length).sum := le_sum (List.mem_map.2 ⟨x, hx, rfl⟩)
        unfold maxLen; omega)
      have hs0 : (L.map fun x => x.1.legs.length).sum ≤ 9 := by omega
      have hsome' : Hid (0 < (L.map Prod.fst).length) := by
        unfold Hid
        rw [List.length_map]
        cases L with
        | nil => simp only [List.map_nil, List.sum_nil, List.length_nil] at hsum hex; omega
        | cons x r => simp
      clear hex
      obtain ⟨x0, e0, f0⟩ := hT.room 0 (by omega)
      obtain ⟨x1, e1, f1⟩ := hT.room 1 (by omega)
      obtain ⟨x2', e2, f2⟩ := hT.room 2 (by omega)
      have q0 := hLBr.c0
      have q1 := hLBr.c1
      have q2 := hLBr.c2
      have hne : w.heap.size ≠ bl := by omega
      refine az _ _ ?_
      clear az
      go_wp2
      refine bodyPost_ret (v := .agg #[.slice at_ tr.length ct, .int .i64 gp, .slice aT L.length cT]) (by simp [results, Tryz.results19, go_sem, e0, e1, e2, htl]) rfl ⟨⟨tr, gp, L.map Prod.fst⟩, ⟨by dsimp only; omega, htr, hgap, by simpa using hL5, by rw [List.map_map]; show (L.map fun x => x.1.legs.length).sum ≤ 10; omega, fun t ht => (by obtain ⟨x, hx, rfl⟩ := List.mem_map.1 ht; dsimp only; rw [htl]; exact hdr x hx), hsome'.out⟩, ⟨L, at_, ct, aT, cT, rfl, rfl, ?_⟩, ?_, ?_⟩
      · exact (((hLBr.own.set ⟨w.heap.size, _, none⟩ (by show w.heap.size < bl + 1; omega) _).set ⟨w.heap.size, _, none⟩ (by show w.heap.size < bl + 1; omega) _).set ⟨w.heap.size, _, none⟩ (by show w.heap.size < bl + 1; omega) _).low (by omega)
      · exact (hCr.more (by omega)).same (((hCr.base.setCell (p := ⟨w.heap.size, _, none⟩) (by have := hCr.lo; show w0.heap.size ≤ w.heap.size; omega) _).setCell (p := ⟨w.heap.size, _, none⟩) (by have := hCr.lo; show w0.heap.size ≤ w.heap.size; omega) _).setCell (p := ⟨w.heap.size, _, none⟩) (by have := hCr.lo; show w0.heap.size ≤ w.heap.size; omega) _) ((Below.heap_setCell _ _ _ b (by show b ≠ w.heap.size; omega)).trans ((Below.heap_setCell _ _ _ b (by show b ≠ w.heap.size; omega)).trans (Below.heap_setCell _ _ _ b (by show b ≠ w.heap.size; omega))))
      · exact ((hMr.setNew ⟨w.heap.size, _, none⟩ (Nat.le_refl _) (by omega) _).setNew ⟨w.heap.size, _, none⟩ (Nat.le_refl _) (by omega) _).setNew ⟨w.heap.size, _, none⟩ (Nat.le_refl _) (by omega) _
end Go.Proofs.YtelickcfodcmaaaGreatDoor

namespace Go.Proofs.YtelickcfodcmaaaGreatDoor
open Go.RowKit

theorem Cur.new (w W : World) (b : Nat) (a : Option Addr) (len cap : Nat) (t : TypeId) (hl : len ≤ 1048576) (hI : IsB w a len) (hB : Below w.heap.size w W) (hb : b = W.heap.size) : Cur w b 0 (W.alloc (.cells #[.slice a len cap, .int .i64 0, .int .u64 0] t)) := by
  subst hb
  refine ⟨Below.join hB (Nat.le_refl _) (b1 W _), hB.size, ⟨a, len, cap, ?_, hl, hI⟩, ⟨0, by omega, by omega, ?_⟩, ⟨0, by omega, by omega, ?_⟩, ?_, ?_⟩
  all_goals simp
/-- what a drawn line is, and how it lies -/
def LinesPost (w : World) (e : Ending) (w' : World) : Prop := ∃ l : LnL, DrawnL l ∧ ∃ L at_ ct aT cT, l.trains = L.map Prod.fst ∧ e = .returned (.agg #[.slice at_ l.tracks.length ct, .int .i64 l.gap, .slice aT L.length cT]) ∧ LOwn w.heap.size w' l.tracks L (.slice at_ l.tracks.length ct) (.slice aT L.length cT) ∧ Below w.heap.size w w'
set_option maxRecDepth 20000 in
set_option maxHeartbeats 4000000 in
theorem lines_any (w : World) (a : Option Addr) (len cap : Nat) (most : Int) (hl : len ≤ 1048576) (hI : IsB w a len) (hm0 : 2 ≤ most) (hm1 : most ≤ 9) :
    Calls Tryz.prog 5 #[.slice a len cap, .int .i64 most] w (LinesPost w) := by
  have hA1 := b1 w (.cells #[.slice none 0 0, .int .i64 0, .slice none 0 0] 26)
  have hA2 := b1 (w.alloc (.cells #[.slice none 0 0, .int .i64 0, .slice none 0 0] 26)) (.cells #[.slice a len cap, .int .i64 0, .int .u64 0] 55)
  have hR1 : Room w.heap.size 3 (w.alloc (.cells #[.slice none 0 0, .int .i64 0, .slice none 0 0] 26)) := Room.lit _ _ _ 3 (by simp)
  have hC1 := Cur.new w _ (w.heap.size + 1) a len cap 55 hl hI hA1 (by rw [World.size_alloc])
  have hR2 := hR1.keep (Mid.ofBelow (lo := 0) (hi := 0) hA2 (Nat.zero_le _))
  have hD := drawLine_any w (w.heap.size + 1) 0 most _ (by omega) hm0 hm1 hC1
  clear hR1 hA1
  go_enter Tryz.func5, Tryz.ntmps5
  go_wp2_with (go_at_call 19; fail)
  refine hD.mono ?_
  rintro _ w2 ⟨l, hDr, ⟨L, at_, ct, aT, cT, hlL, rfl, hown⟩, hC2, hM2⟩
  have hR3 := hR2.keep hM2
  rw [World.size_alloc, World.size_alloc] at hown
  have hbase := hC2.base
  clear hD hA2 hC1 hR2 hM2 hC2
  obtain ⟨x0, e0, f0⟩ := hR3 0 (by omega)
  obtain ⟨x1, e1, f1⟩ := hR3 1 (by omega)
  obtain ⟨x2, e2, f2⟩ := hR3 2 (by omega)
  have hlL' : Hid _ := hlL
  clear hlL
  go_wp2
  refine bodyPost_ret (v := .agg #[.slice at_ l.tracks.length ct, .int .i64 l.gap, .slice aT L.length cT]) (by simp [results, Tryz.results5, go_sem, e0, e1, e2]) rfl ⟨l, hDr, L, at_, ct, aT, cT, hlL'.out, rfl, ?_, ?_⟩
  · exact (((hown.set ⟨w.heap.size, _, none⟩ (by show w.heap.size < w.heap.size + 1 + 1; omega) _).set ⟨w.heap.size, _, none⟩ (by show w.heap.size < w.heap.size + 1 + 1; omega) _).set ⟨w.heap.size, _, none⟩ (by show w.heap.size < w.heap.size + 1 + 1; omega) _).low (by omega)
  · exact ((hbase.setCell (p := ⟨w.heap.size, _, none⟩) (Nat.le_refl _) _).setCell (p := ⟨w.heap.size, _, none⟩) (Nat.le_refl _) _).setCell (p := ⟨w.heap.size, _, none⟩) (Nat.le_refl _) _
end Go.Proofs.YtelickcfodcmaaaGreatDoor

namespace Go.Proofs.YtelickcfodcmaaaGreatDoor
open Go.RowKit

theorem row_cap' {w : World} {base : Nat} {e : TypeId} {size g n cap : Nat} {xs : List Value} (h : w.ownsRow base e size (.slice (some ⟨g, 0, none⟩) n cap) n xs) : n ≤ cap := by
  obtain ⟨_, hx | ⟨g', cap', cur, hv, _, _, h3, _⟩⟩ := h
  · cases hx.1
  · cases hv
    exact h3
theorem intCells_app (A B : List Int) : intCells (A ++ B) = intCells A ++ intCells B := by simp [intCells]
theorem intCells_one (A : List Int) : ∀ u ∈ intCells A, u.oneCell' = true := by
  intro u hu
  obtain ⟨n, _, rfl⟩ := List.mem_map.1 hu
  rfl
theorem cellLaterA {w w' : World} {a : Addr} {v : Value} (h : Below w.heap.size w w') (hc : w.cell? a = some v) : w'.cell? a = some v := by
  obtain ⟨b, o, sp⟩ := a
  have hspot : sp = none := World.cell?_spot hc
  subst hspot
  exact cellLater h hc
theorem row_take {w : World} {base g cap : Nat} {A : List Int} (h : w.ownsRow base 3 1 (.slice (some ⟨g, 0, none⟩) A.length cap) A.length (intCells A)) (q : Nat) (hq : q ≤ A.length) : w.ownsRow base 3 1 (.slice (some ⟨g, 0, none⟩) q cap) q (intCells (A.take q)) := by
  obtain ⟨hl, hx | ⟨g', cap', cur, hv, h1, h2, h3, h4, h5, h6⟩⟩ := h
  · cases hx.1
  · cases hv
    refine ⟨by rw [intCells_len, List.length_take]; omega, Or.inr ⟨g, cap, cur, rfl, h1, h2, by omega, h4, h5, ?_⟩⟩
    have e : intCells (A.take q) = (intCells A).take q := by simp [intCells, List.map_take]
    rw [e, ← h6, List.take_take]
    congr 1
    omega
/-- what stands behind place q, where a slice from there on begins -/
theorem dropAt {w : World} {base g cap : Nat} {A : List Int} (h : w.ownsRow base 3 1 (.slice (some ⟨g, 0, none⟩) A.length cap) A.length (intCells A)) (q : Nat) (hq : q < A.length) :
    ∃ ad : Addr, (if cap = q + 1 then some (⟨g, 0, none⟩ : Addr) else some ⟨g, q + 1, none⟩) = some ad ∧ ∀ j u, (intCells (A.drop (q + 1)))[j]? = some u → w.cell? (ad.add j) = some u := by
  have hcap := row_cap' h
  by_cases e : cap = q + 1
  · refine ⟨⟨g, 0, none⟩, by rw [if_pos e], fun j u hj => ?_⟩
    have : (intCells (A.drop (q + 1))).length = 0 := by rw [intCells_len, List.length_drop]; omega
    rw [List.eq_nil_of_length_eq_zero this] at hj
    simp at hj
  · refine ⟨⟨g, q + 1, none⟩, by rw [if_neg e], fun j u hj => ?_⟩
    have hjl : j < (intCells (A.drop (q + 1))).length := (List.getElem?_eq_some_iff.1 hj).1
    rw [intCells_len, List.length_drop] at hjl
    rw [Go.WideShapes.add_plain, World.ownsRow.cellAt h (q + 1 + j) (by omega), ← hj]
    have e2 : intCells (A.drop (q + 1)) = (intCells A).drop (q + 1) := by simp [intCells, List.map_drop]
    rw [e2, List.getElem?_drop]
def lenV : Value → Nat
  | .slice _ n _ => n
  | _ => 0
theorem lenV_of {w : World} {base : Nat} {e : TypeId} {size n : Nat} {v : Value} {xs : List Value} (h : w.ownsRow base e size v n xs) : lenV v = n := by
  obtain ⟨_, hx | ⟨g', cap', cur, hv, _⟩⟩ := h
  · rw [hx.1, hx.2]; rfl
  · rw [hv]; rfl
/-- what a drawn order is: a row of numbers of its own -/
def OrderPost (w0 : World) (b k n : Nat) (w : World) (e : Ending) (w' : World) : Prop := ∃ (v : Value) (D : List Int), e = .returned v ∧ w'.ownsRow w.heap.size 3 1 v D.length (intCells D) ∧ D.length = n ∧ Cur w0 b (k + 4 * n) w' ∧ Mid b (b + 1) w w'
set_option maxRecDepth 20000 in
set_option maxHeartbeats 8000000 in
theorem order_any (w0 : World) (b k : Nat) (a : Option Addr) (len cap : Nat) (gap : Int) (a' : Option Addr) (np cap' : Nat) (f : Nat → TrainD) (w : World) (hk : k ≤ 100000) (hC : Cur w0 b k w) (hT : IsTrains 0 w.heap.size w a' np f) (hnp : np ≤ 5) (hn10 : legSum f np ≤ 10) :
    Calls Tryz.prog 55 #[.pointer (some ⟨b, 0, none⟩), .agg #[.slice a len cap, .int .i64 gap, .slice a' np cap']] w (OrderPost w0 b k (legSum f np) w) := by
  have hblt : b < w.heap.size := hC.lt
  have hA := b1 w (.cells #[.slice a len cap, .int .i64 gap, .slice a' np cap'] 26)
  obtain ⟨n0, n1, n2⟩ := new3 w (.slice a len cap) (.int .i64 gap) (.slice a' np cap') 26
  obtain ⟨i0, ii, iz0, iz1, iz2⟩ := info_parts Tryz.infoInt
  have hle : ∀ i, i < np → legSum f i + (f i).nl ≤ legSum f np := fun i hi => by
    have hm : ∀ d, i + 1 + d ≤ np → legSum f (i + 1) ≤ legSum f (i + 1 + d) := fun d => by
      induction d with
      | zero => exact fun _ => Nat.le_refl _
      | succ d ih => intro h; exact Nat.le_trans (ih (by omega)) (by rw [show i + 1 + (d + 1) = i + 1 + d + 1 from rfl, legSum]; omega)
    have := hm (np - (i + 1)) (by omega)
    rw [show i + 1 + (np - (i + 1)) = np by omega, legSum] at this
    exact this
  have hle' : Hid _ := hle
  clear hle
  go_enter Tryz.func55, Tryz.ntmps55
  go_wp2
  clear n0 n1 n2
  go_loopw [5, 13] (fun c5 c13 wr => ∃ (i : Nat) (A : List Int), i ≤ np ∧ c13 = .int .i64 i ∧ A.length = legSum f i ∧ wr.ownsRow (w.heap.size + 1) 3 1 c5 A.length (intCells A) ∧ Below w.heap.size w wr ∧ w.heap.size < wr.heap.size) (fun _ c13 _ => np - (intOf c13).toNat)
  case atStart => exact ⟨0, [], Nat.zero_le _, rfl, rfl, World.ownsRow_nil _ _ _ _, hA, by simp⟩
  case round =>
    obtain ⟨i, A, hi, rfl, hAl, hown, hB, hsz⟩ := hrel
    by_cases hlt : i < np
    · have hlt' : (i : Int) < (np : Int) := by omega
      have hi0 : (0 : Int) ≤ (i : Int) := by omega
      have hli := hle'.out i hlt
      obtain ⟨bt, ot, la, lc, rfl, _, hbt, t0, t1, t2, t3, t4, hlg, hml⟩ := hT i hlt
      have t0' := cellLater hB t0
      have t1' := cellLater hB t1
      have t2' := cellLater hB t2
      have t3' := cellLater hB t3
      have t4' := cellLater hB t4
      go_wp2
      clear t0' t1' t2' t3' t4' t0 t1 t2 t3 t4
      have hAt := b1 wr (.cells #[.int .i64 (f i).frm, .int .i64 (f i).ready, .int .i64 (f i).due, .int .i64 (f i).weight, .slice la (f i).nl lc] 72)
      go_loopw [5, 21] (fun c5 c21 wq => ∃ (m : Nat) (A' : List Int), m ≤ (f i).nl ∧ c21 = .int .i64 m ∧ A'.length = legSum f i + m ∧ wq.ownsRow (w.heap.size + 1) 3 1 c5 A'.length (intCells A') ∧ Below w.heap.size w wq ∧ w.heap.size < wq.heap.size) (fun _ c21 _ => (f i).nl - (intOf c21).toNat)
      case atStart => exact ⟨0, A, Nat.zero_le _, rfl, hAl, ownsRow_later hown hAt, Below.join hB (Nat.le_refl _) hAt, by rw [World.size_alloc]; omega⟩
      case round =>
        clear hown hB hsz hAt
        obtain ⟨m, A', hm, rfl, hAl', hown, hB, hsz⟩ := hrel
        by_cases hmlt : m < (f i).nl
        · have hmlt' : (m : Int) < ((f i).nl : Int) := by omega
          go_wp2_with (at_builtin; refine wpList_append_own_at _ rfl _ _ 23 rfl (w.heap.size + 1) 3 i0 _ 1 8 Tryz.underlying23 ii iz0 iz1 iz2 rfl (by decide) _ _ _ rfl (ownsRow_later hown (b1 _ _)) ⟨_, 0, none⟩ 1 1 [.int .i64 i] rfl rfl cells1_lie one1 (by unfold maxLen; omega) (by omega) (by simp only [World.size_alloc]; omega) ?_)
          intro v' W1 hown1 hgr1 _ _
          have hB1 := below_grown (Below.join hB (Nat.le_refl _) (b1 _ _)) hgr1 (by simp only [World.size_alloc]; omega) (fun j hj => by have := (hown.lt j hj).1; omega)
          have hsz1 := hB1.size
          go_wp2
          go_roundw
          case rel => exact ⟨m + 1, A' ++ [(i : Int)], by omega, rfl, by rw [List.length_append, hAl']; rfl, by rw [intCells_snoc, List.length_append, hAl']; exact hown1, hB1, by have := hgr1.size; rw [World.size_alloc] at this; omega⟩
          case measure => simp only [intOf]; omega
        · obtain rfl : m = (f i).nl := by omega
          go_wp2
          go_roundw
          case rel => exact ⟨i + 1, A', by omega, rfl, by rw [hAl', legSum], hown, hB, hsz⟩
          case measure => simp only [intOf]; omega
    · obtain rfl : i = np := by omega
      go_wp2
      have hM0 : Mid b (b + 1) w wr := Mid.ofBelow hB (by omega)
      have hC0 := hC.later hB
      clear hB hT hle' hA hC
      go_loopw [5, 8] (fun c5 c8 wq => ∃ (A D : List Int) (kk : Nat), A.length + D.length = legSum f i ∧ wq.ownsRow (w.heap.size + 1) 3 1 c5 A.length (intCells A) ∧ wq.ownsRow (w.heap.size + 1) 3 1 c8 D.length (intCells D) ∧ Off c5 c8 ∧ Cur w0 b kk wq ∧ kk ≤ k + 4 * D.length ∧ Mid b (b + 1) w wq ∧ w.heap.size < wq.heap.size) (fun c5 _ _ => lenV c5)
      case atStart => exact ⟨A, [], k, by rw [hAl]; rfl, hown, World.ownsRow_nil _ _ _ _, fun j _ e => by simp [Value.ownBlock] at e, hC0, by simp, hM0, hsz⟩
      case round =>
        clear hown hM0 hC0 hsz hAl
        obtain ⟨A, D, kk, hAD, hoA, hoD, hoff, hCq, hkk, hMq, hsz⟩ := hrel
        by_cases hA0 : 0 < A.length
        · obtain ⟨gA, cA, rfl⟩ := Joins.ownsRow_form hoA hA0
          have hA0' : (0 : Int) < (A.length : Int) := by omega
          have hAD' : Hid (A.length + D.length = legSum f i) := hAD
          have hA10 : A.length ≤ 10 := by omega
          have hD10 : D.length ≤ 10 := by omega
          clear hAD
          go_wp2_with (go_at_call 21; fail)
          refine (pick_any w0 b kk A.length _ (by omega) (by omega) hCq).mono ?_
          rintro _ w1 ⟨y1, rfl, hy0, hy1, hC1, hM1⟩
          go_wp2_with (go_at_call 21; fail)
          refine (pick_any w0 b (kk + 2) 2 _ (by omega) (by omega) hC1).mono ?_
          rintro _ w2 ⟨y2, rfl, hy20, hy21, hC2, hM2⟩
          have h12 : 1 + y2 ≠ 0 := by omega
          have hd0 : 0 ≤ y1 / (1 + y2) := Int.ediv_nonneg hy0 (by omega)
          have hd1 : y1 / (1 + y2) ≤ y1 := Int.ediv_le_self _ hy0
          obtain ⟨q, hq⟩ : ∃ q : Nat, y1 / (1 + y2) = (q : Int) := ⟨(y1 / (1 + y2)).toNat, by omega⟩
          rw [hq] at hd0 hd1
          have hqA : q < A.length := by omega
          have hqA' : (q : Int) < (A.length : Int) := by omega
          have hoA2 := rowMid (rowMid hoA hM1 (by omega)) hM2 (by omega)
          have hoD2 := rowMid (rowMid hoD hM1 (by omega)) hM2 (by omega)
          have hMq2 := (hMq.trans hM1).trans hM2
          have hsz2 := hMq2.below.size
          have hb2 := hC2.lt
          obtain ⟨z, hcq⟩ : ∃ z : Int, w2.cell? ⟨gA, q, none⟩ = some (.int .i64 z) := ⟨_, ints_at hoA2 hqA⟩
          clear hoA hoD hCq hMq hC1 hM1 hM2
          go_wp2_with (at_builtin; refine wpList_append_own_at _ rfl _ _ 23 rfl (w.heap.size + 1) 3 i0 _ 1 8 Tryz.underlying23 ii iz0 iz1 iz2 rfl (by decide) _ _ _ rfl (ownsRow_later hoD2 (b1 _ _)) ⟨w2.heap.size, 0, none⟩ 1 1 [.int .i64 z] rfl rfl cells1_lie one1 (by unfold maxLen; omega) (by omega) (by simp only [World.size_alloc]; omega) ?_)
          intro v' W1 hown1 hgr1 _ hloc1
          have hoA3 : W1.ownsRow (w.heap.size + 1) 3 1 (.slice (some ⟨gA, 0, none⟩) A.length cA) A.length (intCells A) := ownsRow_same (ownsRow_later hoA2 (b1 w2 (.cells #[.int .i64 z] 3))) (fun j hj => hgr1.block j (by have := (hoA2.lt j hj).2; rw [World.size_alloc]; omega) (fun e => hoff j hj e.symm))
          clear hcq
          go_wp2
          have hoff1 : Off (.slice (some ⟨gA, 0, none⟩) A.length cA) v' := hoff.loc (W := w2.alloc (.cells #[.int .i64 z] 3)) (fun j hj => by have := (hoA2.lt j hj).2; rw [World.size_alloc]; omega) (by simpa using hloc1)
          have hMW1 : Mid b (b + 1) w W1 := (hMq2.trans (Mid.ofBelow (b1 w2 (.cells #[.int .i64 z] 3)) (by omega))).grown hgr1 (fun j hj => by have := (hoD2.lt j hj).1; omega) (by omega)
          have hCW1 : Cur w0 b (kk + 2 + 2) W1 := (hC2.later (b1 w2 (.cells #[.int .i64 z] 3))).grown hgr1 (fun j hj => by have := (hoD2.lt j hj).1; omega)
          have hsW1 := hMW1.below.size
          have hszW1 : w.heap.size < W1.heap.size := by have := (hoA3.lt gA rfl); omega
          have hDr : Below W1.heap.size W1 W1.drew := (Below.refl _ _).drew
          obtain ⟨ad, hif, hadd⟩ := dropAt hoA3 q hqA
          obtain ⟨v2, W2, hap, hown2, hgr2, _, hloc2⟩ := run_append_own_at (P := Tryz.prog) W1.drew (w.heap.size + 1) 23 23 3 i0 _ 1 8 Tryz.underlying23 ii iz0 iz1 iz2 rfl (by decide) (.slice (some ⟨gA, 0, none⟩) q cA) q (intCells (A.take q)) (ownsRow_later (row_take hoA3 q (by omega)) hDr) ad (A.length - (q + 1)) (cA - (q + 1)) (intCells (A.drop (q + 1))) (by rw [intCells_len, List.length_drop]; omega) (fun j u hj => cellLaterA hDr (hadd j u hj)) (intCells_one _) (by unfold maxLen; omega) (by omega) (by show w.heap.size + 1 ≤ W1.heap.size; omega)
          have hap' : Hid _ := hap
          have hMW2 : Mid b (b + 1) w W2 := (hMW1.trans (Mid.ofBelow hDr (by omega))).grown hgr2 (fun j hj => by have := (hoA3.lt j hj).1; omega) (by omega)
          have hCW2 : Cur w0 b (kk + 2 + 2) W2 := (hCW1.later hDr).grown hgr2 (fun j hj => by have := (hoA3.lt j hj).1; omega)
          have hoD4 : W2.ownsRow (w.heap.size + 1) 3 1 v' (D.length + 1) (intCells D ++ [.int .i64 z]) := ownsRow_same (ownsRow_later hown1 hDr) (fun j hj => hgr2.block j (by have := (hown1.lt j hj).2; exact this) (fun e => hoff1 j e.symm hj))
          have hoff2 : Off v2 v' := (hoff1.symm.loc (W := W1.drew) (v := .slice (some ⟨gA, 0, none⟩) A.length cA) (v' := v2) (fun j hj => (hown1.lt j hj).2) hloc2).symm
          have hlen2 : (A.take q ++ A.drop (q + 1)).length = q + (A.length - (q + 1)) := by rw [List.length_append, List.length_take, List.length_drop]; omega
          have hown2' : W2.ownsRow (w.heap.size + 1) 3 1 v2 (A.take q ++ A.drop (q + 1)).length (intCells (A.take q ++ A.drop (q + 1))) := by
            rw [hlen2, intCells_app]; exact hown2
          have hsW2 : w.heap.size < W2.heap.size := by have := hgr2.size; have h3 : W1.drew.heap.size = W1.heap.size := rfl; omega
          clear hap hown2 hDr
          have hcap := row_cap' hoA3
          have hqc : (q : Int) ≤ (cA : Int) := by omega
          have hw1 : IntKind.i64.wrap ((q : Int) + 1) = (q : Int) + 1 := by rw [IntKind.wrap_i64]; omega
          have hq1c : (q : Int) + 1 ≤ (A.length : Int) := by omega
          have hq10 : (0 : Int) ≤ (q : Int) + 1 := by omega
          refine wp_region_held_drew (S := fun _ => True) (by kernel_rfl) trivial (fun hHeld => ?_)
          refine wpAnyH_take (i := 0) (oi := { dst := some 47, op := Go.Op.move (Go.Operand.tmp 5), type := 23, pos := "l5_draw.go:153", after := #[], guard := none }) (v := ?vv1_0) rfl (by kernel_rfl) (by kernel_rfl) (by kernel_rfl) (fun _ _ _ h => h) (Or.inl ⟨by rfl, ?hy1_0⟩) (by assumption) ?rest1_0
          case hy1_0 =>
            intro w hSw
            (try dsimp only at hSw)
            go_simp
            (try with_reducible rfl)
          simp only [Act.put, List.setIfInBounds_toArray, List.set_cons_zero, List.set_cons_succ]
          refine wpAnyH_take (i := 1) (oi := { dst := some 48, op := Go.Op.move (Go.Operand.tmp 9), type := 3, pos := "l5_draw.go:153", after := #[], guard := none }) (v := ?vv2_1) rfl (by kernel_rfl) (by kernel_rfl) (by kernel_rfl) (fun _ _ _ h => h) (Or.inl ⟨by rfl, ?hy2_1⟩) (by assumption) ?rest2_1
          case hy2_1 =>
            intro w hSw
            (try dsimp only at hSw)
            go_simp
            (try with_reducible rfl)
          simp only [Act.put, List.setIfInBounds_toArray, List.set_cons_zero, List.set_cons_succ]
          refine wpAnyH_take (i := 2) (oi := { dst := some 49, op := Go.Op.slice 23 (Go.Operand.tmp 47) none (some (Go.Operand.tmp 48)) none, type := 23, pos := "l5_draw.go:153", after := #[{ on := 0, ground := Go.Ground.data }, { on := 1, ground := Go.Ground.data }], guard := none }) (v := ?vv3_2) rfl (by kernel_rfl) (by kernel_rfl) (by kernel_rfl) (fun _ _ _ h => h) (Or.inl ⟨by rfl, ?hy3_2⟩) (by assumption) ?rest3_2
          case hy3_2 =>
            intro w hSw
            (try dsimp only at hSw)
            go_simp
            (try with_reducible rfl)
          simp only [Act.put, List.setIfInBounds_toArray, List.set_cons_zero, List.set_cons_succ]
          refine wpAnyH_take (i := 3) (oi := { dst := some 50, op := Go.Op.move (Go.Operand.tmp 5), type := 23, pos := "l5_draw.go:153", after := #[], guard := none }) (v := ?vv4_3) rfl (by kernel_rfl) (by kernel_rfl) (by kernel_rfl) (fun _ _ _ h => h) (Or.inl ⟨by rfl, ?hy4_3⟩) (by assumption) ?rest4_3
          case hy4_3 =>
            intro w hSw
            (try dsimp only at hSw)
            go_simp
            (try with_reducible rfl)
          simp only [Act.put, List.setIfInBounds_toArray, List.set_cons_zero, List.set_cons_succ]
          refine wpAnyH_take (i := 4) (oi := { dst := some 51, op := Go.Op.move (Go.Operand.tmp 9), type := 3, pos := "l5_draw.go:153", after := #[], guard := none }) (v := ?vv5_4) rfl (by kernel_rfl) (by kernel_rfl) (by kernel_rfl) (fun _ _ _ h => h) (Or.inl ⟨by rfl, ?hy5_4⟩) (by assumption) ?rest5_4
          case hy5_4 =>
            intro w hSw
            (try dsimp only at hSw)
            go_simp
            (try with_reducible rfl)
          simp only [Act.put, List.setIfInBounds_toArray, List.set_cons_zero, List.set_cons_succ]
          refine wpAnyH_take (i := 5) (oi := { dst := some 52, op := Go.Op.binOp Go.BinOp.add 3 (Go.Operand.tmp 51) (Go.Operand.const (Go.Value.int Go.IntKind.i64 1)) 3, type := 3, pos := "l5_draw.go:153", after := #[{ on := 4, ground := Go.Ground.data }], guard := none }) (v := ?vv6_5) rfl (by kernel_rfl) (by kernel_rfl) (by kernel_rfl) (fun _ _ _ h => h) (Or.inl ⟨by rfl, ?hy6_5⟩) (by assumption) ?rest6_5
          case hy6_5 =>
            intro w hSw
            (try dsimp only at hSw)
            go_simp
            (try with_reducible rfl)
          simp only [Act.put, List.setIfInBounds_toArray, List.set_cons_zero, List.set_cons_succ]
          refine wpAnyH_take (i := 6) (oi := { dst := some 53, op := Go.Op.slice 23 (Go.Operand.tmp 50) (some (Go.Operand.tmp 52)) none none, type := 23, pos := "l5_draw.go:153", after := #[{ on := 3, ground := Go.Ground.data }, { on := 5, ground := Go.Ground.data }], guard := none }) (v := ?vv7_6) rfl (by kernel_rfl) (by kernel_rfl) (by kernel_rfl) (fun _ _ _ h => h) (Or.inl ⟨by rfl, ?hy7_6⟩) (by assumption) ?rest7_6
          case hy7_6 =>
            intro w hSw
            (try dsimp only at hSw)
            go_simp
            (try with_reducible rfl)
          simp only [Act.put, List.setIfInBounds_toArray, List.set_cons_zero, List.set_cons_succ]
          (try rw [hif])
          refine wpAnyH_ready (rs := [7]) (by kernel_rfl) (by simp) ?_
          refine AllReadyH.cons (o := { dst := some 54, op := Go.Op.call { callee := Go.Callee.builtin Go.Builtin.append, args := #[Go.Operand.tmp 49, Go.Operand.tmp 53], argTypes := #[23, 23] }, type := 23, pos := "l5_draw.go:153", after := #[{ on := 2, ground := Go.Ground.data }, { on := 6, ground := Go.Ground.data }], guard := none }) rfl (fun K hK => ?_) AllReadyH.nil
          refine step_append_eq _ (by rfl) _ _ _ (by rfl) _ _ _ _ (by rfl) (by rfl) hap'.out ?_
          refine hK.out _ _ trivial (fun hHeld => ?_)
          clear hK K
          (try simp only [Act.put, List.setIfInBounds_toArray, List.set_cons_zero, List.set_cons_succ])
          refine wpAnyH_ready (rs := [8]) (by kernel_rfl) (by simp) ?_
          refine AllReadyH.cons (o := { dst := some 5, op := Go.Op.assign (Go.Operand.tmp 54), type := 23, pos := "l5_draw.go:153", after := #[{ on := 7, ground := Go.Ground.data }, { on := 7, ground := Go.Ground.chain }, { on := 0, ground := Go.Ground.phase }, { on := 1, ground := Go.Ground.phase }, { on := 2, ground := Go.Ground.phase }, { on := 3, ground := Go.Ground.phase }, { on := 4, ground := Go.Ground.phase }, { on := 5, ground := Go.Ground.phase }, { on := 6, ground := Go.Ground.phase }, { on := 7, ground := Go.Ground.phase }], guard := none }) rfl (fun K hK => ?_) AllReadyH.nil
          go_simp
          refine hK.out _ _ trivial (fun hHeld => ?_)
          clear hK K
          (try simp only [Act.put, List.setIfInBounds_toArray, List.set_cons_zero, List.set_cons_succ])
          refine wpAnyH_done (by kernel_rfl) ?_ _
          go_wp2
          go_roundw
          case rel => exact ⟨A.take q ++ A.drop (q + 1), D ++ [z], kk + 2 + 2, by have := hAD'.out; rw [hlen2, List.length_append]; simp only [List.length_cons, List.length_nil]; omega, hown2', by rw [intCells_snoc, List.length_append]; exact hoD4, hoff2, hCW2, by rw [List.length_append]; simp only [List.length_cons, List.length_nil]; omega, hMW2, hsW2⟩
          case measure =>
            rw [lenV_of hown2', hlen2]
            simp only [lenV]
            omega
        · have hA00 : A.length = 0 := by omega
          obtain ⟨x5, y5, rfl, _⟩ := ownInts hoA
          have hA0' : ¬ ((0 : Int) < (A.length : Int)) := by omega
          have hDl : D.length = legSum f i := by omega
          have hDl' : Hid (D.length = legSum f i) := hDl
          clear hDl hA00 hAD
          go_wp2
          go_ret
          exact ⟨_, D, rfl, Joins.ownsRow_le hoD (Nat.le_succ _), hDl'.out, hCq.more (by have := hDl'.out; omega), hMq⟩
end Go.Proofs.YtelickcfodcmaaaGreatDoor

namespace Go.Proofs.YtelickcfodcmaaaGreatDoor
open Go.RowKit

theorem leave_bd {len np : Nat} {f : Nat → TrainD} {P : Nat → RowD} {last : Int} (hR : RightL len np f) (hQ : PartP np f P last) {j k : Nat} (hj : j < np) (hk : k < (P j).n) {e : Int} (he : leaveO f P j k = some e) : 0 ≤ e ∧ e ≤ last + 10000 := by
  have hn := hQ.le j hj
  have h1 := hQ.at0 j hj k hk
  obtain ⟨r0, r1, _⟩ := (hR.train j hj).leg k (by omega)
  unfold leaveO at he
  split at he
  · have := hQ.at0 j hj (k + 1) (by omega); simp only [Option.some.injEq] at he; omega
  · split at he
    · cases he
    · simp only [Option.some.injEq] at he; omega
theorem first_bd {len np : Nat} {g : Nat → Int} {f : Nat → TrainD} {P : Nat → RowD} {last s low t : Int} (hR : RightL len np f) (hQ : PartP np f P last) (h : IsFirst np g f P s low t) (hl : low ≤ last + 20000 ∨ low ≤ 110000) : t ≤ last + 20001 ∨ t ≤ 110000 := by
  rcases Int.lt_or_le low t with h1 | h1
  · left
    rcases Int.lt_or_le (last + 10001) t with h2 | h2
    · exfalso
      have hf := h.2.2 (t - 1) (by omega) (by omega)
      refine h.2.1 ?_
      unfold fullAt at *
      rw [thereAll_same (t := t - 1) (t' := t) (by omega) np (fun j hj k hk _ e he h3 => by have := leave_bd hR hQ hj hk he; omega)]
      exact hf
    · omega
  · have := h.1
    rcases hl with h2 | h2
    · left; omega
    · right; omega
theorem ready_bd {len np : Nat} {f : Nat → TrainD} {P : Nat → RowD} {last : Int} (hR : RightL len np f) (hQ : PartP np f P last) {i : Nat} (hi : i < np) (hk : (P i).n < (f i).nl) : 0 ≤ readyOf f P i (P i).n ∧ (readyOf f P i (P i).n ≤ last + 20000 ∨ readyOf f P i (P i).n ≤ 110000) := by
  have hRi := hR.train i hi
  have hr0 := hRi.r0
  have hr1 := hRi.r1
  have hl0 := hQ.l0
  cases hn : (P i).n with
  | zero => obtain ⟨_, _, l2, l3⟩ := hRi.leg 0 (by omega); simp only [readyOf]; omega
  | succ k =>
    have h1 := hQ.at0 i hi k (by omega)
    obtain ⟨r0, r1, _, _⟩ := hRi.leg k (by omega)
    obtain ⟨_, _, l2, l3⟩ := hRi.leg (k + 1) (by omega)
    simp only [readyOf]; omega
theorem low_bd {len np : Nat} {g : Nat → Int} {gap : Int} {f : Nat → TrainD} {P : Nat → RowD} {last : Int} (hR : RightL len np f) (hG : RightG len g gap np f) (hQ : PartP np f P last) {i : Nat} (hi : i < np) (hk : (P i).n < (f i).nl) : last ≤ lowOf np f P gap last i ∧ (lowOf np f P gap last i ≤ last + 20000 ∨ lowOf np f P gap last i ≤ 110000) := by
  have hrd := ready_bd hR hQ hi hk
  have g0 := hG.g0
  have g1 := hG.g1
  have hl0 := hQ.l0
  have hm : last ≤ maxZ (readyOf f P i (P i).n) last ∧ (maxZ (readyOf f P i (P i).n) last ≤ last + 20000 ∨ maxZ (readyOf f P i (P i).n) last ≤ 110000) := by unfold maxZ; split <;> omega
  have hB : ∀ B, maxZ (readyOf f P i (P i).n) last ≤ B → last + 20000 ≤ B → last ≤ lowOf np f P gap last i ∧ lowOf np f P gap last i ≤ B := fun B h1 h2 => by
    have := trackAll_bd (f := f) (P := P) (gap := gap) (i := i) (k := (P i).n) h1 (n := np) (fun j hj m hmm => by
      have h3 := hQ.at0 j hj m hmm
      obtain ⟨r0, r1, _⟩ := (hR.train j hj).leg m (by have := hQ.le j hj; omega)
      omega) np (Nat.le_refl _)
    unfold lowOf
    exact ⟨by omega, this.2⟩
  rcases Int.lt_or_le (last + 20000) 110000 with h | h
  · have := hB 110000 (by omega) (by omega); exact ⟨this.1, Or.inr this.2⟩
  · have := hB (last + 20000) (by omega) (by omega); exact ⟨this.1, Or.inl this.2⟩
theorem PartP.more {len np : Nat} {g : Nat → Int} {gap : Int} {f : Nat → TrainD} {P : Nat → RowD} {last t : Int} (hR : RightL len np f) (hG : RightG len g gap np f) (hQ : PartP np f P last) {i : Nat} (hi : i < np) (hk : (P i).n < (f i).nl) (h : IsFirst np g f P (stOf f P i) (lowOf np f P gap last i) t) {k : Nat} (hk10 : k < 10) (hl : last ≤ 110000 + 20001 * k) :
    PartP np f (moreP P i t) t ∧ t ≤ 110000 + 20001 * ((k + 1 : Nat) : Int) := by
  have h1 := low_bd hR hG hQ hi hk
  have h2 := first_bd hR hQ h h1.2
  have h3 := h.1
  have hl0 := hQ.l0
  have hb : t ≤ 110000 + 20001 * ((k + 1 : Nat) : Int) := by omega
  refine ⟨⟨fun j hj => ?_, fun j hj m hm => ?_, by omega, by omega⟩, hb⟩
  · by_cases e : j = i
    · subst e; simp only [moreP, if_pos]; omega
    · simp only [moreP, if_neg e]; exact hQ.le j hj
  · by_cases e : j = i
    · subst e
      simp only [moreP, if_pos] at hm ⊢
      by_cases e2 : m = (P j).n
      · rw [if_pos e2]; omega
      · rw [if_neg e2]; have := hQ.at0 j hj m (by omega); omega
    · simp only [moreP, if_neg e] at hm ⊢
      have := hQ.at0 j hj m hm; omega

structure StP where
  code : Int
  at_ : Nat
  P : Nat → RowD
  last : Int
noncomputable def stepP (np : Nat) (g : Nat → Int) (f : Nat → TrainD) (gap : Int) (o : Int) (k : Nat) (st : StP) : StP :=
  if st.code ≠ 0 then st else if inB o 0 ((np : Int) - 1) = true then
    (if (nextOf np g f st.P gap st.last o.toNat).1 = 0 then ⟨0, 0, moreP st.P o.toNat (nextOf np g f st.P gap st.last o.toNat).2, (nextOf np g f st.P gap st.last o.toNat).2⟩ else ⟨(nextOf np g f st.P gap st.last o.toNat).1, k, st.P, st.last⟩)
  else ⟨2, k, st.P, st.last⟩
noncomputable def runP (np : Nat) (g : Nat → Int) (f : Nat → TrainD) (gap : Int) (o : Nat → Int) : Nat → StP
  | 0 => ⟨0, 0, fun _ => ⟨0, fun _ => 0⟩, 0⟩
  | k + 1 => stepP np g f gap (o k) k (runP np g f gap o k)
/-- how many legs of each are placed, in all -/
def rowSumQ (P : Nat → RowD) : Nat → Nat
  | 0 => 0
  | i + 1 => rowSumQ P i + (P i).n
theorem rowSumQ_more {P : Nat → RowD} {i : Nat} {t : Int} : ∀ n, rowSumQ (moreP P i t) n = rowSumQ P n + (if i < n then 1 else 0)
  | 0 => rfl
  | n + 1 => by
    simp only [rowSumQ, rowSumQ_more n]
    by_cases e : n = i
    · subst e; simp [moreP]; omega
    · have h : (moreP P i t n).n = (P n).n := by simp [moreP, e]
      rw [h]
      by_cases h2 : i < n
      · rw [if_pos h2, if_pos (by omega)]; omega
      · rw [if_neg h2, if_neg (by omega)]; omega
/-- a run that has come so far without a code -/
structure RunOk (len np : Nat) (g : Nat → Int) (f : Nat → TrainD) (gap : Int) (st : StP) (k : Nat) : Prop where
  part : PartP np f st.P st.last
  lb : st.last ≤ 110000 + 20001 * (k : Int)
  sum : rowSumQ st.P np = k
theorem runP_zero (np : Nat) (g : Nat → Int) (f : Nat → TrainD) (gap : Int) (o : Nat → Int) (len : Nat) : RunOk len np g f gap (runP np g f gap o 0) 0 := by
  refine ⟨⟨fun j _ => Nat.zero_le _, fun j _ m hm => ?_, by show (0 : Int) ≤ 0; omega, by show (0 : Int) ≤ 600000; omega⟩, by show (0 : Int) ≤ _; omega, ?_⟩
  · exact absurd hm (Nat.not_lt_zero _)
  · show rowSumQ (fun _ => ⟨0, fun _ => 0⟩) np = 0
    induction np with
    | zero => rfl
    | succ n ih => simp only [rowSumQ, ih]
theorem runOk_step {len np : Nat} {g : Nat → Int} {gap : Int} {f : Nat → TrainD} (hR : RightL len np f) (hG : RightG len g gap np f) {st : StP} {k : Nat} (h : RunOk len np g f gap st k) (hc : st.code = 0) {i : Nat} (hi : i < np) {t : Int} (hk : (st.P i).n < (f i).nl) (hf : IsFirst np g f st.P (stOf f st.P i) (lowOf np f st.P gap st.last i) t) (hk10 : k < 10) :
    stepP np g f gap (i : Int) k st = ⟨0, 0, moreP st.P i t, t⟩ ∧ RunOk len np g f gap ⟨0, 0, moreP st.P i t, t⟩ (k + 1) := by
  have hn := nextOf_ok (np := np) (g := g) (gap := gap) (last := st.last) (by omega) hf
  have hp := h.part.more hR hG hi hk hf hk10 h.lb
  refine ⟨?_, hp.1, hp.2, ?_⟩
  · unfold stepP
    rw [if_neg (by simp [hc]), if_pos (by unfold inB; simp; omega), Int.toNat_natCast, hn, if_pos rfl]
  · show rowSumQ (moreP st.P i t) np = k + 1
    rw [rowSumQ_more, if_pos hi, h.sum]
end Go.Proofs.YtelickcfodcmaaaGreatDoor

namespace Go.Proofs.YtelickcfodcmaaaGreatDoor
open Go.RowKit

structure NewP (w wr : World) (b : Nat) (a : Option Addr) (len cap : Nat) (gap : Int) (a' : Option Addr) (np cap' : Nat) (j : Nat) (vS : Value) : Prop where
  c0 : wr.cell? ⟨b, 0, none⟩ = some (.slice a len cap)
  c1 : wr.cell? ⟨b, 1, none⟩ = some (.int .i64 gap)
  c2 : wr.cell? ⟨b, 2, none⟩ = some (.slice a' np cap')
  c3 : wr.cell? ⟨b, 3, none⟩ = some vS
  c4 : wr.cell? ⟨b, 4, none⟩ = some (.int .i64 0)
  z3 : wr.frozen? ⟨b, 3, none⟩ = false
  z4 : wr.frozen? ⟨b, 4, none⟩ = false
  own : wr.ownsRow (b + 1) 23 1 vS j (List.replicate j (.slice none 0 0))
  below : Below w.heap.size w wr
theorem NewP.step {w wr w' : World} {b : Nat} {a : Option Addr} {len cap : Nat} {gap : Int} {a' : Option Addr} {np cap' : Nat} {j : Nat} {vS v' : Value} (h : NewP w wr b a len cap gap a' np cap' j vS) (hb : w.heap.size ≤ b)
    (ho : w'.ownsRow (b + 1) 23 1 v' (j + 1) (List.replicate j (.slice none 0 0) ++ [.slice none 0 0])) (hg : (wr.alloc (.cells #[.slice none 0 0] 23)).grownBy w' vS.ownBlock) :
    NewP w (w'.setCell ⟨b, 3, none⟩ v') b a len cap gap a' np cap' (j + 1) v' ∧ w'.cell? ⟨b, 3, none⟩ = some vS ∧ w'.frozen? ⟨b, 3, none⟩ = false := by
  have hB := b1 wr (.cells #[.slice none 0 0] 23)
  have lb : b < wr.heap.size := ltCell h.c0
  have hk : w'.heap[b]? = (wr.alloc (.cells #[.slice none 0 0] 23)).heap[b]? := hg.block b (by have := hB.size; omega) (fun e => by have := (h.own.lt b e.symm).1; omega)
  have cc : ∀ o u, wr.cell? ⟨b, o, none⟩ = some u → w'.cell? ⟨b, o, none⟩ = some u := fun o u hu => (World.cell?_of_block (w := wr.alloc (.cells #[.slice none 0 0] 23)) (w' := w') (a := ⟨b, o, none⟩) hk).trans (cellLater hB hu)
  have zz : ∀ o u, wr.cell? ⟨b, o, none⟩ = some u → wr.frozen? ⟨b, o, none⟩ = false → w'.frozen? ⟨b, o, none⟩ = false := fun o u hu hz => (World.frozen?_of_block (w := wr.alloc (.cells #[.slice none 0 0] 23)) (w' := w') (a := ⟨b, o, none⟩) hk).trans ((hB.frozen (ltCell hu)).trans hz)
  refine ⟨⟨(cell_set_ne (by decide)).trans (cc 0 _ h.c0), (cell_set_ne (by decide)).trans (cc 1 _ h.c1), (cell_set_ne (by decide)).trans (cc 2 _ h.c2), World.cell?_setCell_same _ _ _ (cc 3 _ h.c3), (cell_set_ne (by decide)).trans (cc 4 _ h.c4), by rw [World.frozen?_setCell]; exact zz 3 _ h.c3 h.z3, by rw [World.frozen?_setCell]; exact zz 4 _ h.c4 h.z4, ?_, ?_⟩, cc 3 _ h.c3, zz 3 _ h.c3 h.z3⟩
  · rw [List.replicate_succ']
    exact ownsRow_setCell_below ho (Nat.lt_succ_self _) _
  · exact ((Below.join h.below (Nat.le_refl _) hB).grown hg (by have := h.below.size; have := hB.size; omega) (fun k hk2 => by have := (h.own.lt k hk2).1; omega)).setCell (p := ⟨b, 3, none⟩) hb _

set_option maxRecDepth 20000 in
set_option maxHeartbeats 4000000 in
theorem l2new_any (a : Option Addr) (len cap : Nat) (gap : Int) (a' : Option Addr) (np cap' : Nat) (w : World) (hn : np ≤ 5) :
    Calls Tryz.prog 90 #[.agg #[.slice a len cap, .int .i64 gap, .slice a' np cap']] w fun e w' => (∃ gR c nc, e = .returned (.pointer (some ⟨w.heap.size + 1, 0, none⟩)) ∧ LP w.heap.size w' (w.heap.size + 1) gR a len cap gap a' np cap' c nc (fun _ => .slice none 0 0) (fun _ => ⟨0, fun _ => 0⟩) 0) ∧ Below w.heap.size w w' := by
  obtain ⟨i0, hi, hz0, hz1, hz2⟩ := info_parts Tryz.infoRow
  obtain ⟨y0, y1, y2⟩ := new3 w (.slice a len cap) (.int .i64 gap) (.slice a' np cap') 26
  go_enter Tryz.func90, Tryz.ntmps90
  go_wp2
  have hN := b2 w (.cells #[.slice a len cap, .int .i64 gap, .slice a' np cap'] 26) (.cells #[.slice a len cap, .int .i64 gap, .slice a' np cap', .slice none 0 0, .int .i64 0] 150)
  have hTb := Go.heap_alloc_new (w.alloc (.cells #[.slice a len cap, .int .i64 gap, .slice a' np cap'] 26)) (.cells #[.slice a len cap, .int .i64 gap, .slice a' np cap', .slice none 0 0, .int .i64 0] 150)
  rw [World.size_alloc] at hTb
  refine nameW fun V hV => ?_
  rw [← hV] at hTb hN
  have e0 := cell_of_row V (w.heap.size + 1) 0 _ _ _ hTb
  have e1 := cell_of_row V (w.heap.size + 1) 1 _ _ _ hTb
  have e2 := cell_of_row V (w.heap.size + 1) 2 _ _ _ hTb
  have e3 := cell_of_row V (w.heap.size + 1) 3 _ _ _ hTb
  have e4 := cell_of_row V (w.heap.size + 1) 4 _ _ _ hTb
  simp at e0 e1 e2 e3 e4
  have z3 : V.frozen? ⟨w.heap.size + 1, 3, none⟩ = false := by rw [hV]; rw [World.frozen?_alloc_at _ _ _ _ (by simp)]
  have z4 : V.frozen? ⟨w.heap.size + 1, 4, none⟩ = false := by rw [hV]; rw [World.frozen?_alloc_at _ _ _ _ (by simp)]
  clear hV hTb y0 y1 y2
  go_loopw [10] (fun jj wr => ∃ (j : Nat) (vS : Value), j ≤ np ∧ jj = .int .i64 j ∧ NewP w wr (w.heap.size + 1) a len cap gap a' np cap' j vS) (fun jj _ => np - (intOf jj).toNat)
  case atStart => exact ⟨0, .slice none 0 0, Nat.zero_le _, rfl, e0, e1, e2, e3, e4, z3, z4, World.ownsRow_nil _ _ _ _, hN⟩
  case round =>
    obtain ⟨j, vS, hj, rfl, hP⟩ := hrel
    by_cases hlt : j < np
    · have hj' : (j : Int) < (np : Int) := by omega
      have c3 := hP.c3
      have lb := ltCell c3
      dsimp only at lb
      go_wp2_with (at_builtin; refine wpList_append_own _ rfl _ _ 28 rfl (w.heap.size + 1 + 1) 23 i0 _ 1 24 Tryz.underlying28 hi hz0 hz1 hz2 rfl (by decide) _ _ _ rfl (hP.own.alloc _) ⟨wr.heap.size, 0, none⟩ 1 1 [.slice none 0 0] rfl rfl cells1_lie (fun u hu => by simp at hu; subst hu; rfl) (by unfold maxLen; omega) (by omega) (by simp only [World.size_alloc]; omega) ?_)
      intro v' w6 hown' hgrow _
      obtain ⟨hP2, m3, mz⟩ := hP.step (by omega) hown' hgrow
      have hform := Joins.ownsRow_form hown' (by omega)
      obtain ⟨gn, cn, rfl⟩ := hform
      have hP2' : Hid _ := hP2
      clear hP2 hown' hgrow c3
      go_wp2
      go_roundw
      case rel => exact ⟨j + 1, _, by omega, by go_num, hP2'.out⟩
      case measure => simp [intOf]; omega
    · obtain rfl : j = np := by omega
      go_wp2
      go_ret
      refine ⟨?_, hP.below⟩
      have hb : w.heap.size ≤ w.heap.size + 1 := by omega
      rcases hP.own.2 with ⟨e, h0⟩ | ⟨gR, cp, cur, e, hgb, hgg, _⟩
      · subst h0
        exact ⟨w.heap.size, none, 0, rfl, ⟨hP.c0, hP.c1, hP.c2, by rw [hP.c3, e], hP.c4⟩, hP.z4, fun k hk => by omega, fun k hk => by omega, fun k _ hk => by omega, fun k hk => by omega, by omega, hb, Nat.le_refl _⟩
      · have ho := hP.own
        rw [e] at ho
        refine ⟨gR, some ⟨gR, 0, none⟩, cp, rfl, ⟨hP.c0, hP.c1, hP.c2, by rw [hP.c3, e], hP.c4⟩, hP.z4, fun k hk => ⟨rfl, ?_, ho.frozenAt k⟩, fun k hk => World.ownsRow_nil _ _ _ _, fun k m _ _ _ => Or.inl rfl, fun k hk => ⟨by simp [Value.ownBlock], by simp [Value.ownBlock]⟩, by omega, hb, by omega⟩
        rw [ho.cellAt k (by omega), List.getElem?_replicate, if_pos hk]
end Go.Proofs.YtelickcfodcmaaaGreatDoor

namespace Go.Proofs.YtelickcfodcmaaaGreatDoor
open Go.RowKit

def OwnP (B0 : Nat) (W : World) (c : Option Addr) (np : Nat) (P : Nat → RowD) : Prop := ∃ (gR : Nat) (v : Nat → Value), B0 ≤ gR ∧
  (∀ j, j < np → c = some ⟨gR, 0, none⟩ ∧ W.cell? ⟨gR, j, none⟩ = some (v j) ∧ W.frozen? ⟨gR, j, none⟩ = false) ∧ (∀ j, j < np → W.ownsRow B0 3 1 (v j) (P j).n (rowCells (P j))) ∧
  (∀ j k, j < np → k < np → j ≠ k → Apart (v j) (v k)) ∧ ∀ j, j < np → (v j).ownBlock ≠ some gR
theorem LP.ownP {B0 : Nat} {W : World} {b gR : Nat} {a : Option Addr} {len cap : Nat} {gap : Int} {a' : Option Addr} {np cap' : Nat} {c : Option Addr} {nc : Nat} {v : Nat → Value} {P : Nat → RowD} {last : Int} (h : LP B0 W b gR a len cap gap a' np cap' c nc v P last) : OwnP B0 W c np P :=
  ⟨gR, v, h.lg, h.row, h.own, h.apart, fun j hj => (h.off j hj).2⟩
section
variable {B0 : Nat} {W : World} {c : Option Addr} {np : Nat} {P : Nat → RowD}
theorem OwnP.same (h : OwnP B0 W c np P) {W' : World} (hs : ∀ k, B0 ≤ k → k < W.heap.size → W'.heap[k]? = W.heap[k]?) : OwnP B0 W' c np P := by
  obtain ⟨gR, v, h1, h2, h3, h4, h5⟩ := h
  refine ⟨gR, v, h1, fun j hj => ?_, fun j hj => ownsRow_same (h3 j hj) (fun k hk => hs k ((h3 j hj).lt k hk).1 ((h3 j hj).lt k hk).2), h4, h5⟩
  obtain ⟨e, hc, hz⟩ := h2 j hj
  have hg := hs gR h1 (ltCell hc)
  exact ⟨e, (World.cell?_of_block (w := W) (w' := W') (a := ⟨gR, j, none⟩) hg).trans hc, (World.frozen?_of_block (w := W) (w' := W') (a := ⟨gR, j, none⟩) hg).trans hz⟩
theorem OwnP.later (h : OwnP B0 W c np P) {W' : World} (hB : Below W.heap.size W W') : OwnP B0 W' c np P := h.same (fun k _ hk => hB.block k hk)
theorem OwnP.set (h : OwnP B0 W c np P) {p : Addr} {x : Value} (hp : p.block < B0) : OwnP B0 (W.setCell p x) c np P := h.same (fun k hk _ => Below.heap_setCell W p x k (by omega))
theorem OwnP.low (h : OwnP B0 W c np P) {B1 : Nat} (hb : B1 ≤ B0) : OwnP B1 W c np P := by
  obtain ⟨gR, v, h1, h2, h3, h4, h5⟩ := h
  exact ⟨gR, v, by omega, h2, fun j hj => Joins.ownsRow_le (h3 j hj) hb, h4, h5⟩
theorem OwnP.rows (h : OwnP B0 W c np P) (hn : ∀ j, j < np → (P j).n ≤ 10) : IsRows B0 W.heap.size W c np P := fun j hj => by
  obtain ⟨gR, v, h1, h2, h3, h4, h5⟩ := h
  obtain ⟨e, hc, _⟩ := h2 j hj
  have ho := h3 j hj
  have hml : (P j).n ≤ maxLen := by have := hn j hj; unfold maxLen; omega
  rcases ho.2 with ⟨e0, h0⟩ | ⟨g, cp, cur, e0, hb, hg, _⟩
  · exact ⟨gR, 0, none, 0, e, h1, ltCell hc, by rw [Nat.zero_add, hc, e0, h0], fun m hm => by omega, hml⟩
  · refine ⟨gR, 0, some ⟨g, 0, none⟩, cp, e, h1, ltCell hc, by rw [Nat.zero_add, hc, e0], fun m hm => ?_, hml⟩
    rw [e0] at ho
    exact ⟨g, 0, rfl, (ho.lt g rfl).1, (ho.lt g rfl).2, by rw [Nat.zero_add, ho.cellAt m (by omega)]; exact rowCells_at _ _ hm⟩
end
end Go.Proofs.YtelickcfodcmaaaGreatDoor

namespace Go.Proofs.YtelickcfodcmaaaGreatDoor
open Go.RowKit

theorem runP_stick {np : Nat} {g : Nat → Int} {f : Nat → TrainD} {gap : Int} {o : Nat → Int} {k : Nat} (h : (runP np g f gap o k).code ≠ 0) : ∀ d, runP np g f gap o (k + d) = runP np g f gap o k
  | 0 => rfl
  | d + 1 => by
    show stepP np g f gap (o (k + d)) (k + d) (runP np g f gap o (k + d)) = _
    rw [runP_stick h d]
    unfold stepP
    rw [if_pos h]
theorem runP_at {np : Nat} {g : Nat → Int} {f : Nat → TrainD} {gap : Int} {o : Nat → Int} : ∀ k, (runP np g f gap o k).code = 0 → (runP np g f gap o k).at_ = 0
  | 0, _ => rfl
  | k + 1, h => by
    have ih := runP_at (np := np) (g := g) (f := f) (gap := gap) (o := o) k
    have h' : (stepP np g f gap (o k) k (runP np g f gap o k)).code = 0 := h
    show (stepP np g f gap (o k) k (runP np g f gap o k)).at_ = 0
    unfold stepP at h' ⊢
    by_cases hc : (runP np g f gap o k).code ≠ 0
    · rw [if_pos hc] at h'; exact absurd h' hc
    · rw [if_neg hc] at h' ⊢
      by_cases hi : inB (o k) 0 ((np : Int) - 1) = true
      · rw [if_pos hi] at h' ⊢
        by_cases hn : (nextOf np g f (runP np g f gap o k).P gap (runP np g f gap o k).last (o k).toNat).1 = 0
        · rw [if_pos hn]
        · rw [if_neg hn] at h'; exact absurd h' hn
      · rw [if_neg hi] at h'; simp at h'
noncomputable def placeSt (nt : Nat) (g : Nat → Int) (gap : Int) (np : Nat) (f : Nat → TrainD) (no : Nat) (o : Nat → Int) : StP :=
  if (faultOf nt g gap np f).1 = 0 ∧ no ≤ 10 then
    (if (runP np g f gap o no).code ≠ 0 then runP np g f gap o no else if no = legSum f np then runP np g f gap o no else ⟨4, no, (runP np g f gap o no).P, (runP np g f gap o no).last⟩)
  else ⟨1, 0, fun _ => ⟨0, fun _ => 0⟩, 0⟩

theorem box31 (w : World) (a : Option Addr) (len cap : Nat) (gap : Int) (a' : Option Addr) (np cap' : Nat) (t t' : TypeId) :
    (((w.alloc (.cells #[.slice a len cap, .int .i64 gap, .slice a' np cap'] t)).alloc (.cells #[.int .i64 0, .int .i64 0, .slice none 0 0] t')).cell? ⟨w.heap.size, 0, none⟩ = some (.slice a len cap) ∧ ((w.alloc (.cells #[.slice a len cap, .int .i64 gap, .slice a' np cap'] t)).alloc (.cells #[.int .i64 0, .int .i64 0, .slice none 0 0] t')).cell? ⟨w.heap.size, 1, none⟩ = some (.int .i64 gap) ∧
    ((w.alloc (.cells #[.slice a len cap, .int .i64 gap, .slice a' np cap'] t)).alloc (.cells #[.int .i64 0, .int .i64 0, .slice none 0 0] t')).cell? ⟨w.heap.size, 2, none⟩ = some (.slice a' np cap')) ∧ Room (w.heap.size + 1) 3 ((w.alloc (.cells #[.slice a len cap, .int .i64 gap, .slice a' np cap'] t)).alloc (.cells #[.int .i64 0, .int .i64 0, .slice none 0 0] t')) := by
  obtain ⟨n0, n1, n2⟩ := new3 w (.slice a len cap) (.int .i64 gap) (.slice a' np cap') t
  refine ⟨⟨cellLater (b1 _ _) n0, cellLater (b1 _ _) n1, cellLater (b1 _ _) n2⟩, ?_⟩
  have h := Room.lit (w.alloc (.cells #[.slice a len cap, .int .i64 gap, .slice a' np cap'] t)) #[.int .i64 0, .int .i64 0, .slice none 0 0] t' 3 (Nat.le_refl _)
  rwa [World.size_alloc] at h
theorem below_set3 {n : Nat} {A W : World} (h : Below n A W) {b : Nat} (hb : n ≤ b) (x y z : Value) : Below n A (((W.setCell ⟨b, 0, none⟩ x).setCell ⟨b, 1, none⟩ y).setCell ⟨b, 2, none⟩ z) :=
  ((h.setCell (p := ⟨b, 0, none⟩) hb _).setCell (p := ⟨b, 1, none⟩) hb _).setCell (p := ⟨b, 2, none⟩) hb _

/-- the answer of a Place, as it lies: its plan in memory of its own, from B0 on -/
def IsPlaced (B0 : Nat) (W : World) (st : StP) (np : Nat) (v : Value) : Prop :=
  ∃ cv, v = .agg #[.int .i64 st.code, .int .i64 (st.at_ : Int), cv] ∧ (st.code ≠ 0 → cv = .slice none 0 0) ∧ (st.code = 0 → ∃ c nc, cv = .slice c np nc ∧ OwnP B0 W c np st.P ∧ ∀ j, j < np → (st.P j).n ≤ 10)
end Go.Proofs.YtelickcfodcmaaaGreatDoor
