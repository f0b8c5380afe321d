/-
  The draws of the model: a line, its tracks.
  The draws of the model: a line as it is drawn, for a law.
  A row of a text, by the program.
  The program's WriteLine: what it answers.
-/
import Derived.Test.YtnjaegeapcijpaaGreatDoorGH
import Derived.Deep.RegionHeld3
import Derived.Test.YtnjaegeapcijpaaGreatDoorGB
import Derived.Test.YtnjaegeapcijpaaGreatDoorGA
import Derived.Test.YtnjaegeapcijpaaGreatDoorGE
import Derived.Lib.SmallJoins
import Derived.Laws.AppendOwnNone
import Derived.Test.YtnjaegeapcijpaaGreatDoorIsRight
namespace Go.Proofs.YtnjaegeapcijpaaGreatDoor
open Go.RowKit

theorem LBox.track {B0 bl : Nat} {W W1 : World} {tr : List Int} {gap z : Int} {vt v' : Value} (h : LBox B0 bl W tr gap [] vt (.slice none 0 0)) (ho : W1.ownsRow B0 3 1 v' (tr.length + 1) (intCells tr ++ [.int .i64 z])) (hg : W.grownBy W1 vt.ownBlock) : LBox B0 bl (W1.setCell ⟨bl, 0, none⟩ v') (tr ++ [z]) gap [] v' (.slice none 0 0) := by
  have hlt := h.lt
  have hlb := ltCell h.c0
  dsimp only at hlb
  have hb : W1.heap[bl]? = W.heap[bl]? := hg.block bl hlb (fun e => by have := (h.own.ints.lt bl e.symm).1; omega)
  have cc : ∀ o u, W.cell? ⟨bl, o, none⟩ = some u → W1.cell? ⟨bl, o, none⟩ = some u := fun o u hu => (World.cell?_of_block (w := W) (w' := W1) (a := ⟨bl, o, none⟩) hb).trans hu
  have zz : ∀ o, W.frozen? ⟨bl, o, none⟩ = false → W1.frozen? ⟨bl, o, none⟩ = false := fun o hu => (World.frozen?_of_block (w := W) (w' := W1) (a := ⟨bl, o, none⟩) hb).trans hu
  refine ⟨World.cell?_setCell_same _ _ _ (cc 0 _ h.c0), (cell_set_ne (by omega)).trans (cc 1 _ h.c1), (cell_set_ne (by omega)).trans (cc 2 _ h.c2), (World.frozen?_setCell ..).trans (zz 0 h.z0), (World.frozen?_setCell ..).trans (zz 1 h.z1), (World.frozen?_setCell ..).trans (zz 2 h.z2), hlt, ⟨?_, OwnT.nil _ _, fun k _ e => by simp [Value.ownBlock] at e, fun x hx => absurd hx List.not_mem_nil⟩⟩
  rw [intCells_snoc, List.length_append]
  exact ownsRow_setCell_below ho hlt _

/-- what a draw of a line answers -/
def DrawPost (w0 : World) (b k : Nat) (w : World) (e : Ending) (w' : World) : Prop := ∃ l : LnL, DrawnL l ∧ (∃ L at_ ct aT cT, l.trains = L.map Prod.fst ∧ e = .returned (.agg #[.slice at_ l.tracks.length ct, .int .i64 l.gap, .slice aT L.length cT]) ∧ LOwn w.heap.size w' l.tracks L (.slice at_ l.tracks.length ct) (.slice aT L.length cT)) ∧ Cur w0 b (k + 1000) w' ∧ Mid b (b + 1) w w'
set_option maxRecDepth 20000 in
set_option maxHeartbeats 8000000 in
theorem drawLine_any (w0 : World) (b k : Nat) (most : Int) (w : World) (hk : k ≤ 1000) (hm0 : 2 ≤ most) (hm1 : most ≤ 9) (hC : Cur w0 b k w) :
    Calls Tryz.prog 19 #[.pointer (some ⟨b, 0, none⟩), .int .i64 most] w (DrawPost w0 b k w) := by
  have hblt : b < w.heap.size := hC.lt
  have hA := b1 w (.cells #[.slice none 0 0, .int .i64 0, .slice none 0 0] 26)
  have hroom : Room w.heap.size 3 (w.alloc (.cells #[.slice none 0 0, .int .i64 0, .slice none 0 0] 26)) := Room.lit _ _ _ 3 (by simp)
  have hMA : Mid b (b + 1) w (w.alloc (.cells #[.slice none 0 0, .int .i64 0, .slice none 0 0] 26)) := Mid.ofBelow hA (by omega)
  have hP1 := pick_any w0 b k 5 _ (by omega) (by decide) (hC.later hA)
  have hsA : (w.alloc (.cells #[.slice none 0 0, .int .i64 0, .slice none 0 0] 26)).heap.size = w.heap.size + 1 := by simp
  go_enter Tryz.func19, Tryz.ntmps19
  go_wp2_with (go_at_call 21; with_reducible refine hP1.mono ?_; rintro _ w1 ⟨gp, rfl, hg0, hg1, hC1, hM1⟩)
  have hs1 := hM1.below.size
  have hroom1 := hroom.keep hM1
  have hN1 := b1 w1 (.cells #[.slice none 0 0, .int .i64 gp, .slice none 0 0] 26)
  have hP2 := pick_any w0 b (k + 2) 4 _ (by omega) (by decide) (hC1.later hN1)
  refine hP2.mono ?_
  rintro _ w2 ⟨x2, rfl, hx0, hx1, hC2, hM2⟩
  have hN := hx1
  have hs2 := hM2.below.size
  have hLB : LBox (w1.heap.size + 1) w1.heap.size (w1.alloc (.cells #[.slice none 0 0, .int .i64 gp, .slice none 0 0] 26)) [] gp [] (.slice none 0 0) (.slice none 0 0) := by
    refine ⟨?_, ?_, ?_, ?_, ?_, ?_, by omega, ⟨World.ownsRow_nil _ _ _ _, OwnT.nil _ _, fun k e => by simp [Value.ownBlock] at e, fun x hx => absurd hx List.not_mem_nil⟩⟩
    all_goals simp
  have hsN : (w1.alloc (.cells #[.slice none 0 0, .int .i64 gp, .slice none 0 0] 26)).heap.size = w1.heap.size + 1 := by simp
  have hb1 : b < w1.heap.size := by omega
  have hLB2 := hLB.mid hM2 hb1
  have hMd2 : Mid b (b + 1) w w2 := ((hMA.trans hM1).trans (Mid.ofBelow hN1 (by omega))).trans hM2
  have hroom2 := (hroom1.keep (Mid.ofBelow (lo := 0) (hi := 0) hN1 (Nat.zero_le _))).keep hM2
  obtain ⟨N, hN0⟩ : ∃ N : Nat, 2 + x2 = (N : Int) := ⟨(2 + x2).toNat, by omega⟩
  have hN1' : 2 ≤ N ∧ N ≤ 5 := by omega
  obtain ⟨bl, hbl0⟩ : ∃ bl, bl = w1.heap.size := ⟨_, rfl⟩
  rw [← hbl0] at hLB2 ⊢
  have hblb : b < bl := by omega
  have hblw : w.heap.size < bl := by omega
  clear hbl0 hLB hC1 hM1 hN1 hP1 hP2 hroom hroom1 hMA hA hsA hs1 hs2 hM2 hC hsN hb1
  go_wp2
  go_loopw [6] (fun cc wr => ∃ (c kk : Nat) (tr : List Int) (vt : Value), cc = .int .i64 c ∧ tr.length + c = N ∧ kk ≤ k + 4 + 4 * tr.length ∧ (∀ z ∈ tr, 1 ≤ z ∧ z ≤ 3) ∧ LBox (bl + 1) bl wr tr gp [] vt (.slice none 0 0) ∧ Cur w0 b kk wr ∧ Mid b (b + 1) w wr ∧ Room w.heap.size 3 wr) (fun cc _ => (intOf cc).toNat)
  case atStart => exact ⟨N, k + 4, [], _, rfl, by simp, by simp, fun z hz => absurd hz List.not_mem_nil, hLB2, hC2.more (by omega), hMd2, hroom2⟩
  case round =>
    obtain ⟨c, kk, tr, vt, rfl, htc, hkk, htr, hLBr, hCr, hMr, hroomr⟩ := hrel
    by_cases hc : 0 < c
    · have hc' : (0 : Int) < (c : Int) := by omega
      obtain ⟨at_, ct, rfl, _⟩ := ownInts hLBr.own.ints
      obtain ⟨i0, ii, iz0, iz1, iz2⟩ := info3 Tryz.infoInt
      have hbd : Below wr.heap.size wr wr.drew := (Below.refl _ wr).drew
      have hLBd := hLBr.later hbd
      have q0 := hLBr.c0
      have hK1 := pick_any w0 b kk 3 wr.drew (by omega) (by decide) (hCr.later hbd)
      go_wp2
      refine wp_region_held_drew (S := (fun _ => True)) (by kernel_rfl) trivial (fun hHeld => ?_)
      refine wpAnyH_take (i := 0) (oi := { dst := some 25, op := Go.Op.fieldAddr 26 (Go.Operand.tmp 5) 0, type := 0, pos := "l5_draw.go:51", after := #[], guard := none }) (v := ?vv1_0) rfl (by kernel_rfl) (by kernel_rfl) (by kernel_rfl) (fun _ _ _ h => h) (Or.inl ⟨by rfl, ?hy1_0⟩) (by assumption) ?rest1_0
      case hy1_0 =>
        intro w hSw
        (try dsimp only at hSw)
        go_simp
        (try with_reducible rfl)
      simp only [Act.put, List.setIfInBounds_toArray, List.set_cons_zero, List.set_cons_succ]
      refine wpAnyH_take (i := 2) (oi := { dst := some 27, op := Go.Op.move (Go.Operand.tmp 0), type := 51, pos := "l5_draw.go:51", after := #[], guard := none }) (v := ?vv2_2) rfl (by kernel_rfl) (by kernel_rfl) (by kernel_rfl) (fun _ _ _ h => h) (Or.inl ⟨by rfl, ?hy2_2⟩) (by assumption) ?rest2_2
      case hy2_2 =>
        intro w hSw
        (try dsimp only at hSw)
        go_simp
        (try with_reducible rfl)
      simp only [Act.put, List.setIfInBounds_toArray, List.set_cons_zero, List.set_cons_succ]
      refine wpAnyH_take (i := 4) (oi := { dst := some 29, op := Go.Op.move (Go.Operand.tmp 0), type := 51, pos := "l5_draw.go:51", after := #[], guard := none }) (v := ?vv3_4) rfl (by kernel_rfl) (by kernel_rfl) (by kernel_rfl) (fun _ _ _ h => h) (Or.inl ⟨by rfl, ?hy3_4⟩) (by assumption) ?rest3_4
      case hy3_4 =>
        intro w hSw
        (try dsimp only at hSw)
        go_simp
        (try with_reducible rfl)
      simp only [Act.put, List.setIfInBounds_toArray, List.set_cons_zero, List.set_cons_succ]
      refine wpAnyH_ready (rs := [1, 3]) (by kernel_rfl) (by simp) ?_
      refine AllReadyH.cons (o := { dst := some 26, op := Go.Op.load 23 (Go.Operand.tmp 25), type := 23, pos := "l5_draw.go:51", after := #[{ on := 0, ground := Go.Ground.data }], guard := none }) rfl (fun K hK => ?_) (AllReadyH.cons (o := { dst := some 28, op := Go.Op.call { callee := Go.Callee.value (Go.Operand.func 21), args := #[Go.Operand.tmp 27, Go.Operand.const (Go.Value.int Go.IntKind.i64 3)], argTypes := #[51, 3] }, type := 3, pos := "l5_draw.go:51", after := #[{ on := 2, ground := Go.Ground.data }], guard := none }) rfl (fun K hK => ?_) AllReadyH.nil)
      go_simp
      refine hK.out _ _ trivial (fun hHeld => ?_)
      clear hK K
      (try simp only [Act.put, List.setIfInBounds_toArray, List.set_cons_zero, List.set_cons_succ])
      refine wpAnyH_ready (rs := [3]) (by kernel_rfl) (by simp) ?_
      refine AllReadyH.cons (o := { dst := some 28, op := Go.Op.call { callee := Go.Callee.value (Go.Operand.func 21), args := #[Go.Operand.tmp 27, Go.Operand.const (Go.Value.int Go.IntKind.i64 3)], argTypes := #[51, 3] }, type := 3, pos := "l5_draw.go:51", after := #[{ on := 2, ground := Go.Ground.data }], guard := none }) rfl (fun K hK => ?_) AllReadyH.nil
      go_simp
      refine hK1.mono ?_
      rintro _ w3 ⟨x, rfl, hx30, hx31, hC3, hM3⟩
      have hLB3 := hLBd.mid hM3 hblb
      have q3 := hLB3.c0
      have hK2 := pick_any w0 b (kk + 2) 2 w3 (by omega) (by decide) hC3
      refine hK.out _ _ trivial (fun hHeld => ?_)
      clear hK K
      (try simp only [Act.put, List.setIfInBounds_toArray, List.set_cons_zero, List.set_cons_succ])
      refine wpAnyH_ready (rs := [5]) (by kernel_rfl) (by simp) ?_
      refine AllReadyH.cons (o := { dst := some 30, op := Go.Op.call { callee := Go.Callee.value (Go.Operand.func 21), args := #[Go.Operand.tmp 29, Go.Operand.const (Go.Value.int Go.IntKind.i64 2)], argTypes := #[51, 3] }, type := 3, pos := "l5_draw.go:51", after := #[{ on := 4, ground := Go.Ground.data }, { on := 3, ground := Go.Ground.chain }], guard := none }) rfl (fun K hK => ?_) AllReadyH.nil
      go_simp
      refine hK2.mono ?_
      rintro _ w4 ⟨y, rfl, hy0, hy1, hC4, hM4⟩
      have hLB4 := hLB3.mid hM4 hblb
      have q4 := hLB4.c0
      have hxy0 : 0 ≤ x * y := Int.mul_nonneg hx30 hy0
      have hxy1 : x * y ≤ 2 := by
        rcases hy1 with hy1 | rfl
        · have : y = 0 ∨ y = 1 := by omega
          rcases this with rfl | rfl <;> omega
        · omega
      have hwp : IntKind.i64.wrap (x * y) = x * y := by rw [IntKind.wrap_i64]; omega
      have hwq : IntKind.i64.wrap (1 + x * y) = 1 + x * y := by rw [IntKind.wrap_i64]; omega
      have hA9 := b1 w4 (.cells #[.int .i64 (1 + x * y)] 3)
      have hLBA := hLB4.later hA9
      have q4' := hLBA.c0
      have hsz4 := ltCell hLB4.c0
      dsimp only at hsz4
      obtain ⟨v', W1, hap, hown1, hgr1, _, hloc1⟩ := run_append_own_at (P := Tryz.prog) (w4.alloc (.cells #[.int .i64 (1 + x * y)] 3)) (bl + 1) 23 23 3 i0 _ 1 8 Tryz.underlying23 ii iz0 iz1 iz2 rfl (by decide) (.slice at_ tr.length ct) tr.length (intCells tr) hLBA.own.ints ⟨w4.heap.size, 0, none⟩ 1 1 [.int .i64 (1 + x * y)] rfl cells1_lie one1 (by unfold maxLen; omega) (by omega) (by simp only [World.size_alloc]; omega)
      have hap' : Hid _ := hap
      obtain ⟨gn, cn, rfl⟩ := Joins.ownsRow_form hown1 (by omega)
      have hbk : W1.heap[bl]? = _ := hgr1.block bl (ltCell hLBA.c0) (fun e => by have := (hLBA.own.ints.lt bl e.symm).1; omega)
      have m3 := (World.cell?_of_block (w' := W1) (a := ⟨bl, 0, none⟩) hbk).trans hLBA.c0
      have mz := (World.frozen?_of_block (w' := W1) (a := ⟨bl, 0, none⟩) hbk).trans hLBA.z0
      clear hap hbk
      refine hK.out _ _ trivial (fun hHeld => ?_)
      clear hK K
      (try simp only [Act.put, List.setIfInBounds_toArray, List.set_cons_zero, List.set_cons_succ])
      refine wpAnyH_take (i := 6) (oi := { dst := some 31, op := Go.Op.binOp Go.BinOp.mul 3 (Go.Operand.tmp 28) (Go.Operand.tmp 30) 3, type := 3, pos := "l5_draw.go:51", after := #[{ on := 3, ground := Go.Ground.data }, { on := 5, ground := Go.Ground.data }], guard := none }) (v := ?vv4_6) rfl (by kernel_rfl) (by kernel_rfl) (by kernel_rfl) (fun _ _ _ h => h) (Or.inl ⟨by rfl, ?hy4_6⟩) (by assumption) ?rest4_6
      case hy4_6 =>
        intro w hSw
        (try dsimp only at hSw)
        go_simp
        (try with_reducible rfl)
      simp only [Act.put, List.setIfInBounds_toArray, List.set_cons_zero, List.set_cons_succ]
      refine wpAnyH_take (i := 7) (oi := { dst := some 32, op := Go.Op.binOp Go.BinOp.add 3 (Go.Operand.const (Go.Value.int Go.IntKind.i64 1)) (Go.Operand.tmp 31) 3, type := 3, pos := "l5_draw.go:51", after := #[{ on := 6, ground := Go.Ground.data }], guard := none }) (v := ?vv5_7) rfl (by kernel_rfl) (by kernel_rfl) (by kernel_rfl) (fun _ _ _ h => h) (Or.inl ⟨by rfl, ?hy5_7⟩) (by assumption) ?rest5_7
      case hy5_7 =>
        intro w hSw
        (try dsimp only at hSw)
        go_simp
        (try with_reducible rfl)
      simp only [Act.put, List.setIfInBounds_toArray, List.set_cons_zero, List.set_cons_succ]
      refine wpAnyH_ready (rs := [8]) (by kernel_rfl) (by simp) ?_
      refine AllReadyH.cons (o := { dst := some 33, op := Go.Op.buildSlice 23 1 #[(0, Go.Operand.tmp 32)], type := 23, pos := "l5_draw.go:51", after := #[{ on := 7, ground := Go.Ground.data }], guard := none }) rfl (fun K hK => ?_) AllReadyH.nil
      go_simp
      refine hK.out _ _ trivial (fun hHeld => ?_)
      clear hK K
      (try simp only [Act.put, List.setIfInBounds_toArray, List.set_cons_zero, List.set_cons_succ])
      refine wpAnyH_ready (rs := [9]) (by kernel_rfl) (by simp) ?_
      refine AllReadyH.cons (o := { dst := some 34, op := Go.Op.call { callee := Go.Callee.builtin Go.Builtin.append, args := #[Go.Operand.tmp 26, Go.Operand.tmp 33], argTypes := #[23, 23] }, type := 23, pos := "l5_draw.go:51", after := #[{ on := 1, ground := Go.Ground.data }, { on := 8, ground := Go.Ground.data }, { on := 5, ground := Go.Ground.chain }], guard := none }) rfl (fun K hK => ?_) AllReadyH.nil
      refine step_append_eq _ (by rfl) _ _ _ (by rfl) _ _ _ _ (by rfl) (by rfl) hap'.out ?_
      refine hK.out _ _ trivial (fun hHeld => ?_)
      clear hK K
      (try simp only [Act.put, List.setIfInBounds_toArray, List.set_cons_zero, List.set_cons_succ])
      refine wpAnyH_take (i := 10) (oi := { dst := some 35, op := Go.Op.fieldAddr 26 (Go.Operand.tmp 5) 0, type := 0, pos := "l5_draw.go:51", after := #[{ on := 0, ground := Go.Ground.phase }, { on := 1, ground := Go.Ground.phase }, { on := 2, ground := Go.Ground.phase }, { on := 3, ground := Go.Ground.phase }, { on := 4, ground := Go.Ground.phase }, { on := 5, ground := Go.Ground.phase }, { on := 6, ground := Go.Ground.phase }, { on := 7, ground := Go.Ground.phase }, { on := 8, ground := Go.Ground.phase }, { on := 9, ground := Go.Ground.phase }], guard := none }) (v := ?vv6_10) rfl (by kernel_rfl) (by kernel_rfl) (by kernel_rfl) (fun _ _ _ h => h) (Or.inl ⟨by rfl, ?hy6_10⟩) (by assumption) ?rest6_10
      case hy6_10 =>
        intro w hSw
        (try dsimp only at hSw)
        go_simp
        (try with_reducible rfl)
      simp only [Act.put, List.setIfInBounds_toArray, List.set_cons_zero, List.set_cons_succ]
      refine wpAnyH_ready (rs := [11]) (by kernel_rfl) (by simp) ?_
      refine AllReadyH.cons (o := { dst := none, op := Go.Op.store 23 (Go.Operand.tmp 35) (Go.Operand.tmp 34), type := 0, pos := "l5_draw.go:51", after := #[{ on := 10, ground := Go.Ground.data }, { on := 9, ground := Go.Ground.data }, { on := 9, ground := Go.Ground.chain }, { on := 0, ground := Go.Ground.phase }, { on := 1, ground := Go.Ground.phase }, { on := 2, ground := Go.Ground.phase }, { on := 3, ground := Go.Ground.phase }, { on := 4, ground := Go.Ground.phase }, { on := 5, ground := Go.Ground.phase }, { on := 6, ground := Go.Ground.phase }, { on := 7, ground := Go.Ground.phase }, { on := 8, ground := Go.Ground.phase }, { on := 9, ground := Go.Ground.phase }], guard := none }) rfl (fun K hK => ?_) AllReadyH.nil
      go_simp
      refine hK.out _ _ trivial (fun hHeld => ?_)
      clear hK K
      (try simp only [Act.put, List.setIfInBounds_toArray, List.set_cons_zero, List.set_cons_succ])
      refine wpAnyH_done (by kernel_rfl) ?_ _
      rotate_left
      go_simp
      refine hK1.mono ?_
      rintro _ w3 ⟨x, rfl, hx30, hx31, hC3, hM3⟩
      have hLB3 := hLBd.mid hM3 hblb
      have q3 := hLB3.c0
      have hK2 := pick_any w0 b (kk + 2) 2 w3 (by omega) (by decide) hC3
      refine hK.out _ _ trivial (fun hHeld => ?_)
      clear hK K
      (try simp only [Act.put, List.setIfInBounds_toArray, List.set_cons_zero, List.set_cons_succ])
      refine wpAnyH_ready (rs := [1, 5]) (by kernel_rfl) (by simp) ?_
      refine AllReadyH.cons (o := { dst := some 26, op := Go.Op.load 23 (Go.Operand.tmp 25), type := 23, pos := "l5_draw.go:51", after := #[{ on := 0, ground := Go.Ground.data }], guard := none }) rfl (fun K hK => ?_) (AllReadyH.cons (o := { dst := some 30, op := Go.Op.call { callee := Go.Callee.value (Go.Operand.func 21), args := #[Go.Operand.tmp 29, Go.Operand.const (Go.Value.int Go.IntKind.i64 2)], argTypes := #[51, 3] }, type := 3, pos := "l5_draw.go:51", after := #[{ on := 4, ground := Go.Ground.data }, { on := 3, ground := Go.Ground.chain }], guard := none }) rfl (fun K hK => ?_) AllReadyH.nil)
      go_simp
      refine hK.out _ _ trivial (fun hHeld => ?_)
      clear hK K
      (try simp only [Act.put, List.setIfInBounds_toArray, List.set_cons_zero, List.set_cons_succ])
      refine wpAnyH_ready (rs := [5]) (by kernel_rfl) (by simp) ?_
      refine AllReadyH.cons (o := { dst := some 30, op := Go.Op.call { callee := Go.Callee.value (Go.Operand.func 21), args := #[Go.Operand.tmp 29, Go.Operand.const (Go.Value.int Go.IntKind.i64 2)], argTypes := #[51, 3] }, type := 3, pos := "l5_draw.go:51", after := #[{ on := 4, ground := Go.Ground.data }, { on := 3, ground := Go.Ground.chain }], guard := none }) rfl (fun K hK => ?_) AllReadyH.nil
      go_simp
      refine hK2.mono ?_
      rintro _ w4 ⟨y, rfl, hy0, hy1, hC4, hM4⟩
      have hLB4 := hLB3.mid hM4 hblb
      have q4 := hLB4.c0
      have hxy0 : 0 ≤ x * y := Int.mul_nonneg hx30 hy0
      have hxy1 : x * y ≤ 2 := by
        rcases hy1 with hy1 | rfl
        · have : y = 0 ∨ y = 1 := by omega
          rcases this with rfl | rfl <;> omega
        · omega
      have hwp : IntKind.i64.wrap (x * y) = x * y := by rw [IntKind.wrap_i64]; omega
      have hwq : IntKind.i64.wrap (1 + x * y) = 1 + x * y := by rw [IntKind.wrap_i64]; omega
      have hA9 := b1 w4 (.cells #[.int .i64 (1 + x * y)] 3)
      have hLBA := hLB4.later hA9
      have q4' := hLBA.c0
      have hsz4 := ltCell hLB4.c0
      dsimp only at hsz4
      obtain ⟨v', W1, hap, hown1, hgr1, _, hloc1⟩ := run_append_own_at (P := Tryz.prog) (w4.alloc (.cells #[.int .i64 (1 + x * y)] 3)) (bl + 1) 23 23 3 i0 _ 1 8 Tryz.underlying23 ii iz0 iz1 iz2 rfl (by decide) (.slice at_ tr.length ct) tr.length (intCells tr) hLBA.own.ints ⟨w4.heap.size, 0, none⟩ 1 1 [.int .i64 (1 + x * y)] rfl cells1_lie one1 (by unfold maxLen; omega) (by omega) (by simp only [World.size_alloc]; omega)
      have hap' : Hid _ := hap
      obtain ⟨gn, cn, rfl⟩ := Joins.ownsRow_form hown1 (by omega)
      have hbk : W1.heap[bl]? = _ := hgr1.block bl (ltCell hLBA.c0) (fun e => by have := (hLBA.own.ints.lt bl e.symm).1; omega)
      have m3 := (World.cell?_of_block (w' := W1) (a := ⟨bl, 0, none⟩) hbk).trans hLBA.c0
      have mz := (World.frozen?_of_block (w' := W1) (a := ⟨bl, 0, none⟩) hbk).trans hLBA.z0
      clear hap hbk
      refine hK.out _ _ trivial (fun hHeld => ?_)
      clear hK K
      (try simp only [Act.put, List.setIfInBounds_toArray, List.set_cons_zero, List.set_cons_succ])
      refine wpAnyH_take (i := 6) (oi := { dst := some 31, op := Go.Op.binOp Go.BinOp.mul 3 (Go.Operand.tmp 28) (Go.Operand.tmp 30) 3, type := 3, pos := "l5_draw.go:51", after := #[{ on := 3, ground := Go.Ground.data }, { on := 5, ground := Go.Ground.data }], guard := none }) (v := ?vv7_6) rfl (by kernel_rfl) (by kernel_rfl) (by kernel_rfl) (fun _ _ _ h => h) (Or.inl ⟨by rfl, ?hy7_6⟩) (by assumption) ?rest7_6
      case hy7_6 =>
        intro w hSw
        (try dsimp only at hSw)
        go_simp
        (try with_reducible rfl)
      simp only [Act.put, List.setIfInBounds_toArray, List.set_cons_zero, List.set_cons_succ]
      refine wpAnyH_take (i := 7) (oi := { dst := some 32, op := Go.Op.binOp Go.BinOp.add 3 (Go.Operand.const (Go.Value.int Go.IntKind.i64 1)) (Go.Operand.tmp 31) 3, type := 3, pos := "l5_draw.go:51", after := #[{ on := 6, ground := Go.Ground.data }], guard := none }) (v := ?vv8_7) rfl (by kernel_rfl) (by kernel_rfl) (by kernel_rfl) (fun _ _ _ h => h) (Or.inl ⟨by rfl, ?hy8_7⟩) (by assumption) ?rest8_7
      case hy8_7 =>
        intro w hSw
        (try dsimp only at hSw)
        go_simp
        (try with_reducible rfl)
      simp only [Act.put, List.setIfInBounds_toArray, List.set_cons_zero, List.set_cons_succ]
      refine wpAnyH_ready (rs := [8]) (by kernel_rfl) (by simp) ?_
      refine AllReadyH.cons (o := { dst := some 33, op := Go.Op.buildSlice 23 1 #[(0, Go.Operand.tmp 32)], type := 23, pos := "l5_draw.go:51", after := #[{ on := 7, ground := Go.Ground.data }], guard := none }) rfl (fun K hK => ?_) AllReadyH.nil
      go_simp
      refine hK.out _ _ trivial (fun hHeld => ?_)
      clear hK K
      (try simp only [Act.put, List.setIfInBounds_toArray, List.set_cons_zero, List.set_cons_succ])
      refine wpAnyH_ready (rs := [9]) (by kernel_rfl) (by simp) ?_
      refine AllReadyH.cons (o := { dst := some 34, op := Go.Op.call { callee := Go.Callee.builtin Go.Builtin.append, args := #[Go.Operand.tmp 26, Go.Operand.tmp 33], argTypes := #[23, 23] }, type := 23, pos := "l5_draw.go:51", after := #[{ on := 1, ground := Go.Ground.data }, { on := 8, ground := Go.Ground.data }, { on := 5, ground := Go.Ground.chain }], guard := none }) rfl (fun K hK => ?_) AllReadyH.nil
      refine step_append_eq _ (by rfl) _ _ _ (by rfl) _ _ _ _ (by rfl) (by rfl) hap'.out ?_
      refine hK.out _ _ trivial (fun hHeld => ?_)
      clear hK K
      (try simp only [Act.put, List.setIfInBounds_toArray, List.set_cons_zero, List.set_cons_succ])
      refine wpAnyH_take (i := 10) (oi := { dst := some 35, op := Go.Op.fieldAddr 26 (Go.Operand.tmp 5) 0, type := 0, pos := "l5_draw.go:51", after := #[{ on := 0, ground := Go.Ground.phase }, { on := 1, ground := Go.Ground.phase }, { on := 2, ground := Go.Ground.phase }, { on := 3, ground := Go.Ground.phase }, { on := 4, ground := Go.Ground.phase }, { on := 5, ground := Go.Ground.phase }, { on := 6, ground := Go.Ground.phase }, { on := 7, ground := Go.Ground.phase }, { on := 8, ground := Go.Ground.phase }, { on := 9, ground := Go.Ground.phase }], guard := none }) (v := ?vv9_10) rfl (by kernel_rfl) (by kernel_rfl) (by kernel_rfl) (fun _ _ _ h => h) (Or.inl ⟨by rfl, ?hy9_10⟩) (by assumption) ?rest9_10
      case hy9_10 =>
        intro w hSw
        (try dsimp only at hSw)
        go_simp
        (try with_reducible rfl)
      simp only [Act.put, List.setIfInBounds_toArray, List.set_cons_zero, List.set_cons_succ]
      refine wpAnyH_ready (rs := [11]) (by kernel_rfl) (by simp) ?_
      refine AllReadyH.cons (o := { dst := none, op := Go.Op.store 23 (Go.Operand.tmp 35) (Go.Operand.tmp 34), type := 0, pos := "l5_draw.go:51", after := #[{ on := 10, ground := Go.Ground.data }, { on := 9, ground := Go.Ground.data }, { on := 9, ground := Go.Ground.chain }, { on := 0, ground := Go.Ground.phase }, { on := 1, ground := Go.Ground.phase }, { on := 2, ground := Go.Ground.phase }, { on := 3, ground := Go.Ground.phase }, { on := 4, ground := Go.Ground.phase }, { on := 5, ground := Go.Ground.phase }, { on := 6, ground := Go.Ground.phase }, { on := 7, ground := Go.Ground.phase }, { on := 8, ground := Go.Ground.phase }, { on := 9, ground := Go.Ground.phase }], guard := none }) rfl (fun K hK => ?_) AllReadyH.nil
      go_simp
      refine hK.out _ _ trivial (fun hHeld => ?_)
      clear hK K
      (try simp only [Act.put, List.setIfInBounds_toArray, List.set_cons_zero, List.set_cons_succ])
      refine wpAnyH_done (by kernel_rfl) ?_ _
      rotate_left
      go_simp
      refine hK2.mono ?_
      rintro _ w4 ⟨y, rfl, hy0, hy1, hC4, hM4⟩
      have hLB4 := hLB3.mid hM4 hblb
      have q4 := hLB4.c0
      have hxy0 : 0 ≤ x * y := Int.mul_nonneg hx30 hy0
      have hxy1 : x * y ≤ 2 := by
        rcases hy1 with hy1 | rfl
        · have : y = 0 ∨ y = 1 := by omega
          rcases this with rfl | rfl <;> omega
        · omega
      have hwp : IntKind.i64.wrap (x * y) = x * y := by rw [IntKind.wrap_i64]; omega
      have hwq : IntKind.i64.wrap (1 + x * y) = 1 + x * y := by rw [IntKind.wrap_i64]; omega
      have hA9 := b1 w4 (.cells #[.int .i64 (1 + x * y)] 3)
      have hLBA := hLB4.later hA9
      have q4' := hLBA.c0
      have hsz4 := ltCell hLB4.c0
      dsimp only at hsz4
      obtain ⟨v', W1, hap, hown1, hgr1, _, hloc1⟩ := run_append_own_at (P := Tryz.prog) (w4.alloc (.cells #[.int .i64 (1 + x * y)] 3)) (bl + 1) 23 23 3 i0 _ 1 8 Tryz.underlying23 ii iz0 iz1 iz2 rfl (by decide) (.slice at_ tr.length ct) tr.length (intCells tr) hLBA.own.ints ⟨w4.heap.size, 0, none⟩ 1 1 [.int .i64 (1 + x * y)] rfl cells1_lie one1 (by unfold maxLen; omega) (by omega) (by simp only [World.size_alloc]; omega)
      have hap' : Hid _ := hap
      obtain ⟨gn, cn, rfl⟩ := Joins.ownsRow_form hown1 (by omega)
      have hbk : W1.heap[bl]? = _ := hgr1.block bl (ltCell hLBA.c0) (fun e => by have := (hLBA.own.ints.lt bl e.symm).1; omega)
      have m3 := (World.cell?_of_block (w' := W1) (a := ⟨bl, 0, none⟩) hbk).trans hLBA.c0
      have mz := (World.frozen?_of_block (w' := W1) (a := ⟨bl, 0, none⟩) hbk).trans hLBA.z0
      clear hap hbk
      refine hK.out _ _ trivial (fun hHeld => ?_)
      clear hK K
      (try simp only [Act.put, List.setIfInBounds_toArray, List.set_cons_zero, List.set_cons_succ])
      refine wpAnyH_take (i := 6) (oi := { dst := some 31, op := Go.Op.binOp Go.BinOp.mul 3 (Go.Operand.tmp 28) (Go.Operand.tmp 30) 3, type := 3, pos := "l5_draw.go:51", after := #[{ on := 3, ground := Go.Ground.data }, { on := 5, ground := Go.Ground.data }], guard := none }) (v := ?vv10_6) rfl (by kernel_rfl) (by kernel_rfl) (by kernel_rfl) (fun _ _ _ h => h) (Or.inl ⟨by rfl, ?hy10_6⟩) (by assumption) ?rest10_6
      case hy10_6 =>
        intro w hSw
        (try dsimp only at hSw)
        go_simp
        (try with_reducible rfl)
      simp only [Act.put, List.setIfInBounds_toArray, List.set_cons_zero, List.set_cons_succ]
      refine wpAnyH_take (i := 7) (oi := { dst := some 32, op := Go.Op.binOp Go.BinOp.add 3 (Go.Operand.const (Go.Value.int Go.IntKind.i64 1)) (Go.Operand.tmp 31) 3, type := 3, pos := "l5_draw.go:51", after := #[{ on := 6, ground := Go.Ground.data }], guard := none }) (v := ?vv11_7) rfl (by kernel_rfl) (by kernel_rfl) (by kernel_rfl) (fun _ _ _ h => h) (Or.inl ⟨by rfl, ?hy11_7⟩) (by assumption) ?rest11_7
      case hy11_7 =>
        intro w hSw
        (try dsimp only at hSw)
        go_simp
        (try with_reducible rfl)
      simp only [Act.put, List.setIfInBounds_toArray, List.set_cons_zero, List.set_cons_succ]
      refine wpAnyH_ready (rs := [1, 8]) (by kernel_rfl) (by simp) ?_
      refine AllReadyH.cons (o := { dst := some 26, op := Go.Op.load 23 (Go.Operand.tmp 25), type := 23, pos := "l5_draw.go:51", after := #[{ on := 0, ground := Go.Ground.data }], guard := none }) rfl (fun K hK => ?_) (AllReadyH.cons (o := { dst := some 33, op := Go.Op.buildSlice 23 1 #[(0, Go.Operand.tmp 32)], type := 23, pos := "l5_draw.go:51", after := #[{ on := 7, ground := Go.Ground.data }], guard := none }) rfl (fun K hK => ?_) AllReadyH.nil)
      go_simp
      refine hK.out _ _ trivial (fun hHeld => ?_)
      clear hK K
      (try simp only [Act.put, List.setIfInBounds_toArray, List.set_cons_zero, List.set_cons_succ])
      refine wpAnyH_ready (rs := [8]) (by kernel_rfl) (by simp) ?_
      refine AllReadyH.cons (o := { dst := some 33, op := Go.Op.buildSlice 23 1 #[(0, Go.Operand.tmp 32)], type := 23, pos := "l5_draw.go:51", after := #[{ on := 7, ground := Go.Ground.data }], guard := none }) rfl (fun K hK => ?_) AllReadyH.nil
      go_simp
      refine hK.out _ _ trivial (fun hHeld => ?_)
      clear hK K
      (try simp only [Act.put, List.setIfInBounds_toArray, List.set_cons_zero, List.set_cons_succ])
      refine wpAnyH_ready (rs := [9]) (by kernel_rfl) (by simp) ?_
      refine AllReadyH.cons (o := { dst := some 34, op := Go.Op.call { callee := Go.Callee.builtin Go.Builtin.append, args := #[Go.Operand.tmp 26, Go.Operand.tmp 33], argTypes := #[23, 23] }, type := 23, pos := "l5_draw.go:51", after := #[{ on := 1, ground := Go.Ground.data }, { on := 8, ground := Go.Ground.data }, { on := 5, ground := Go.Ground.chain }], guard := none }) rfl (fun K hK => ?_) AllReadyH.nil
      refine step_append_eq _ (by rfl) _ _ _ (by rfl) _ _ _ _ (by rfl) (by rfl) hap'.out ?_
      refine hK.out _ _ trivial (fun hHeld => ?_)
      clear hK K
      (try simp only [Act.put, List.setIfInBounds_toArray, List.set_cons_zero, List.set_cons_succ])
      refine wpAnyH_take (i := 10) (oi := { dst := some 35, op := Go.Op.fieldAddr 26 (Go.Operand.tmp 5) 0, type := 0, pos := "l5_draw.go:51", after := #[{ on := 0, ground := Go.Ground.phase }, { on := 1, ground := Go.Ground.phase }, { on := 2, ground := Go.Ground.phase }, { on := 3, ground := Go.Ground.phase }, { on := 4, ground := Go.Ground.phase }, { on := 5, ground := Go.Ground.phase }, { on := 6, ground := Go.Ground.phase }, { on := 7, ground := Go.Ground.phase }, { on := 8, ground := Go.Ground.phase }, { on := 9, ground := Go.Ground.phase }], guard := none }) (v := ?vv12_10) rfl (by kernel_rfl) (by kernel_rfl) (by kernel_rfl) (fun _ _ _ h => h) (Or.inl ⟨by rfl, ?hy12_10⟩) (by assumption) ?rest12_10
      case hy12_10 =>
        intro w hSw
        (try dsimp only at hSw)
        go_simp
        (try with_reducible rfl)
      simp only [Act.put, List.setIfInBounds_toArray, List.set_cons_zero, List.set_cons_succ]
      refine wpAnyH_ready (rs := [11]) (by kernel_rfl) (by simp) ?_
      refine AllReadyH.cons (o := { dst := none, op := Go.Op.store 23 (Go.Operand.tmp 35) (Go.Operand.tmp 34), type := 0, pos := "l5_draw.go:51", after := #[{ on := 10, ground := Go.Ground.data }, { on := 9, ground := Go.Ground.data }, { on := 9, ground := Go.Ground.chain }, { on := 0, ground := Go.Ground.phase }, { on := 1, ground := Go.Ground.phase }, { on := 2, ground := Go.Ground.phase }, { on := 3, ground := Go.Ground.phase }, { on := 4, ground := Go.Ground.phase }, { on := 5, ground := Go.Ground.phase }, { on := 6, ground := Go.Ground.phase }, { on := 7, ground := Go.Ground.phase }, { on := 8, ground := Go.Ground.phase }, { on := 9, ground := Go.Ground.phase }], guard := none }) rfl (fun K hK => ?_) AllReadyH.nil
      go_simp
      refine hK.out _ _ trivial (fun hHeld => ?_)
      clear hK K
      (try simp only [Act.put, List.setIfInBounds_toArray, List.set_cons_zero, List.set_cons_succ])
      refine wpAnyH_done (by kernel_rfl) ?_ _
      rotate_left
      go_simp
      refine hK.out _ _ trivial (fun hHeld => ?_)
      clear hK K
      (try simp only [Act.put, List.setIfInBounds_toArray, List.set_cons_zero, List.set_cons_succ])
      refine wpAnyH_ready (rs := [1]) (by kernel_rfl) (by simp) ?_
      refine AllReadyH.cons (o := { dst := some 26, op := Go.Op.load 23 (Go.Operand.tmp 25), type := 23, pos := "l5_draw.go:51", after := #[{ on := 0, ground := Go.Ground.data }], guard := none }) rfl (fun K hK => ?_) AllReadyH.nil
      go_simp
      refine hK.out _ _ trivial (fun hHeld => ?_)
      clear hK K
      (try simp only [Act.put, List.setIfInBounds_toArray, List.set_cons_zero, List.set_cons_succ])
      refine wpAnyH_ready (rs := [9]) (by kernel_rfl) (by simp) ?_
      refine AllReadyH.cons (o := { dst := some 34, op := Go.Op.call { callee := Go.Callee.builtin Go.Builtin.append, args := #[Go.Operand.tmp 26, Go.Operand.tmp 33], argTypes := #[23, 23] }, type := 23, pos := "l5_draw.go:51", after := #[{ on := 1, ground := Go.Ground.data }, { on := 8, ground := Go.Ground.data }, { on := 5, ground := Go.Ground.chain }], guard := none }) rfl (fun K hK => ?_) AllReadyH.nil
      refine step_append_eq _ (by rfl) _ _ _ (by rfl) _ _ _ _ (by rfl) (by rfl) hap'.out ?_
      refine hK.out _ _ trivial (fun hHeld => ?_)
      clear hK K
      (try simp only [Act.put, List.setIfInBounds_toArray, List.set_cons_zero, List.set_cons_succ])
      refine wpAnyH_take (i := 10) (oi := { dst := some 35, op := Go.Op.fieldAddr 26 (Go.Operand.tmp 5) 0, type := 0, pos := "l5_draw.go:51", after := #[{ on := 0, ground := Go.Ground.phase }, { on := 1, ground := Go.Ground.phase }, { on := 2, ground := Go.Ground.phase }, { on := 3, ground := Go.Ground.phase }, { on := 4, ground := Go.Ground.phase }, { on := 5, ground := Go.Ground.phase }, { on := 6, ground := Go.Ground.phase }, { on := 7, ground := Go.Ground.phase }, { on := 8, ground := Go.Ground.phase }, { on := 9, ground := Go.Ground.phase }], guard := none }) (v := ?vv13_10) rfl (by kernel_rfl) (by kernel_rfl) (by kernel_rfl) (fun _ _ _ h => h) (Or.inl ⟨by rfl, ?hy13_10⟩) (by assumption) ?rest13_10
      case hy13_10 =>
        intro w hSw
        (try dsimp only at hSw)
        go_simp
        (try with_reducible rfl)
      simp only [Act.put, List.setIfInBounds_toArray, List.set_cons_zero, List.set_cons_succ]
      refine wpAnyH_ready (rs := [11]) (by kernel_rfl) (by simp) ?_
      refine AllReadyH.cons (o := { dst := none, op := Go.Op.store 23 (Go.Operand.tmp 35) (Go.Operand.tmp 34), type := 0, pos := "l5_draw.go:51", after := #[{ on := 10, ground := Go.Ground.data }, { on := 9, ground := Go.Ground.data }, { on := 9, ground := Go.Ground.chain }, { on := 0, ground := Go.Ground.phase }, { on := 1, ground := Go.Ground.phase }, { on := 2, ground := Go.Ground.phase }, { on := 3, ground := Go.Ground.phase }, { on := 4, ground := Go.Ground.phase }, { on := 5, ground := Go.Ground.phase }, { on := 6, ground := Go.Ground.phase }, { on := 7, ground := Go.Ground.phase }, { on := 8, ground := Go.Ground.phase }, { on := 9, ground := Go.Ground.phase }], guard := none }) rfl (fun K hK => ?_) AllReadyH.nil
      go_simp
      refine hK.out _ _ trivial (fun hHeld => ?_)
      clear hK K
      (try simp only [Act.put, List.setIfInBounds_toArray, List.set_cons_zero, List.set_cons_succ])
      refine wpAnyH_done (by kernel_rfl) ?_ _
      all_goals
        have hlow : ∀ k, (Value.slice at_ tr.length ct).ownBlock = some k → bl + 1 ≤ k := fun k hk => (hLBA.own.ints.lt k hk).1
        have hLB9 := hLBA.track hown1 hgr1
        have hMx : Mid b (b + 1) w (w4.alloc (.cells #[.int .i64 (1 + x * y)] 3)) := (((hMr.trans (Mid.ofBelow hbd (by have := hCr.lt; omega))).trans hM3).trans hM4).trans (Mid.ofBelow hA9 (by omega))
        have hM9 := (hMx.grown hgr1 (fun k hk => by have := hlow k hk; omega) (by omega)).setNew ⟨bl, 0, none⟩ (Nat.le_of_lt hblw) (by omega) (.slice (some ⟨gn, 0, none⟩) (tr.length + 1) cn)
        have hbkc : W1.heap[b]? = (w4.alloc (.cells #[.int .i64 (1 + x * y)] 3)).heap[b]? := hgr1.block b (by simp only [World.size_alloc]; omega) (fun e => by have := hlow b e.symm; omega)
        have hC9 : Cur w0 b (kk + 4) (W1.setCell ⟨bl, 0, none⟩ (.slice (some ⟨gn, 0, none⟩) (tr.length + 1) cn)) := (hC4.later hA9).same ((below_grown (hC4.later hA9).base hgr1 (by have := hC4.base.size; simp only [World.size_alloc]; omega) (fun k hk => by have := hlow k hk; have := hC4.lo; omega)).setCell (p := ⟨bl, 0, none⟩) (by have := hC4.lo; show w0.heap.size ≤ bl; omega) _) ((Below.heap_setCell W1 _ _ b (by show b ≠ bl; omega)).trans hbkc)
        have hr9 := ((((hroomr.keep (Mid.ofBelow (lo := 0) (hi := 0) hbd (Nat.zero_le _))).keep hM3).keep hM4).keep (Mid.ofBelow (lo := 0) (hi := 0) hA9 (Nat.zero_le _))).grown hgr1 (fun k hk => by have := hlow k hk; omega) |>.set ⟨bl, 0, none⟩ (.slice (some ⟨gn, 0, none⟩) (tr.length + 1) cn)
        go_wp2
        go_roundw
        case rel =>
          refine ⟨c - 1, kk + 4, tr ++ [1 + x * y], _, by rw [show ((c - 1 : Nat) : Int) = (c : Int) - 1 by omega], by rw [List.length_append]; simp; omega, by rw [List.length_append]; simp; omega, fun z hz => ?_, hLB9, hC9, hM9, hr9⟩
          rcases List.mem_append.1 hz with hz | hz
          · exact htr z hz
          · rw [List.mem_singleton] at hz; subst hz; omega
        case measure => simp [intOf] <;> omega
    · obtain rfl : c = 0 := by omega
      obtain ⟨at_, ct, rfl, _⟩ := ownInts hLBr.own.ints
      have q0 := hLBr.c0
      have hmb : most - 1 ≤ 100000 := by omega
      have hK3 := pick_any w0 b kk (most - 1) wr (by omega) hmb hCr
      go_wp2_with (go_at_call 21; with_reducible refine hK3.mono ?_; rintro _ w3 ⟨x3, rfl, hx30, hx31, hC3, hM3⟩)
      have hLB3 := hLBr.mid hM3 hblb
      have hroom3 := hroomr.keep hM3
      have hM03 := hMr.trans hM3
      have hlg0 : 2 ≤ 2 + x3 ∧ 2 + x3 ≤ most := by omega
      obtain ⟨lg, hlg⟩ : ∃ lg : Nat, 2 + x3 = (lg : Int) := ⟨(2 + x3).toNat, by omega⟩
      have hk3 : kk + 2 ≤ k + 30 := by omega
      have htl : tr.length = N := by omega
      have hgap : 0 ≤ gp ∧ gp ≤ 4 := by omega
      have hlg9 : lg ≤ 9 := by omega
      clear hK3 hLBr hCr hMr hroomr hM3 q0 hlg0 hc hLB2 hC2 hMd2 hroom2
      rw [hlg, htl]
      rename_i Kz az
      refine line_trains w0 b bl N k lg lg (kk + 2) tr gp (.slice at_ tr.length ct) w w3 Kz _ ?_ hk hN1' hlg9 hblb hblw hblt ⟨by simp, by simp, by simp; omega, fun x hx => absurd hx List.not_mem_nil, hLB3, hC3, hM03, hroom3⟩
      intro u9 u10 u11 u12 u13 u14 u44 u45 u46 u47 u48 u49 u50 u51 u52 u53 u54 u55 u56 u57 u58 u59 u60 u61 u62 u63 u64 u65 u66 u67 u68 u69 u70 u71 u72 u73 u74 u75 u76 u77 u78 u79 u80 u81 u82 u83 u84 u85 u86 u87 u88 u89 u90 u91 u92 u93 u94 u95 u96 u97 u98 u99 u100 u101 u102 u103 u104 u105 u106 u107 u108 u109 u110 u111 u112 u113 u114 u115 u116 u117 u118 u119 u120 u121 u122 u123 u124 u125 u126 u127 u128 c8 g kC L vT wr hT
      have hLBr := hT.box
      have hCr := hT.cur
      have hMr := hT.mid
      have hL5 := hT.len
      have hsum := hT.sum
      have hkC := hT.more
      have hdr := hT.dr
      obtain ⟨aT, cT, rfl, _⟩ := hLBr.own.trs.trains (fun x hx => by
        have h1 : x.1.legs.length ≤ (L.map fun x => x.1.legs.length).sum := le_sum (List.mem_map.2 ⟨x, hx, rfl⟩)
        unfold maxLen; omega)
      have hs0 : (L.map fun x => x.1.legs.length).sum ≤ 9 := by omega
      obtain ⟨x0, e0, f0⟩ := hT.room 0 (by omega)
      obtain ⟨x1, e1, f1⟩ := hT.room 1 (by omega)
      obtain ⟨x2', e2, f2⟩ := hT.room 2 (by omega)
      have q0 := hLBr.c0
      have q1 := hLBr.c1
      have q2 := hLBr.c2
      have hne : w.heap.size ≠ bl := by omega
      refine az _ _ ?_
      clear az
      go_wp2
      refine bodyPost_ret (v := .agg #[.slice at_ tr.length ct, .int .i64 gp, .slice aT L.length cT]) (by simp [results, Tryz.results19, go_sem, e0, e1, e2, htl]) rfl ⟨⟨tr, gp, L.map Prod.fst⟩, ⟨by dsimp only; omega, htr, hgap, by simpa using hL5, by rw [List.map_map]; show (L.map fun x => x.1.legs.length).sum ≤ 10; omega, fun t ht => (by obtain ⟨x, hx, rfl⟩ := List.mem_map.1 ht; dsimp only; rw [htl]; exact hdr x hx)⟩, ⟨L, at_, ct, aT, cT, rfl, rfl, ?_⟩, ?_, ?_⟩
      · exact (((hLBr.own.set ⟨w.heap.size, _, none⟩ (by show w.heap.size < bl + 1; omega) _).set ⟨w.heap.size, _, none⟩ (by show w.heap.size < bl + 1; omega) _).set ⟨w.heap.size, _, none⟩ (by show w.heap.size < bl + 1; omega) _).low (by omega)
      · exact (hCr.more (by omega)).same (((hCr.base.setCell (p := ⟨w.heap.size, _, none⟩) (by have := hCr.lo; show w0.heap.size ≤ w.heap.size; omega) _).setCell (p := ⟨w.heap.size, _, none⟩) (by have := hCr.lo; show w0.heap.size ≤ w.heap.size; omega) _).setCell (p := ⟨w.heap.size, _, none⟩) (by have := hCr.lo; show w0.heap.size ≤ w.heap.size; omega) _) ((Below.heap_setCell _ _ _ b (by show b ≠ w.heap.size; omega)).trans ((Below.heap_setCell _ _ _ b (by show b ≠ w.heap.size; omega)).trans (Below.heap_setCell _ _ _ b (by show b ≠ w.heap.size; omega))))
      · exact ((hMr.setNew ⟨w.heap.size, _, none⟩ (Nat.le_refl _) (by omega) _).setNew ⟨w.heap.size, _, none⟩ (Nat.le_refl _) (by omega) _).setNew ⟨w.heap.size, _, none⟩ (Nat.le_refl _) (by omega) _
end Go.Proofs.YtnjaegeapcijpaaGreatDoor

namespace Go.Proofs.YtnjaegeapcijpaaGreatDoor
open Go.RowKit

theorem Cur.new (w W : World) (b : Nat) (a : Option Addr) (len cap : Nat) (t : TypeId) (hl : len ≤ 1048576) (hI : IsB w a len) (hB : Below w.heap.size w W) (hb : b = W.heap.size) : Cur w b 0 (W.alloc (.cells #[.slice a len cap, .int .i64 0, .int .u64 0] t)) := by
  subst hb
  refine ⟨Below.join hB (Nat.le_refl _) (b1 W _), hB.size, ⟨a, len, cap, ?_, hl, hI⟩, ⟨0, by omega, by omega, ?_⟩, ⟨0, by omega, by omega, ?_⟩, ?_, ?_⟩
  all_goals simp
/-- what a drawn line is, and how it lies -/
def LinesPost (w : World) (e : Ending) (w' : World) : Prop := ∃ l : LnL, DrawnL l ∧ ∃ L at_ ct aT cT, l.trains = L.map Prod.fst ∧ e = .returned (.agg #[.slice at_ l.tracks.length ct, .int .i64 l.gap, .slice aT L.length cT]) ∧ LOwn w.heap.size w' l.tracks L (.slice at_ l.tracks.length ct) (.slice aT L.length cT) ∧ Below w.heap.size w w'
set_option maxRecDepth 20000 in
set_option maxHeartbeats 4000000 in
theorem lines_any (w : World) (a : Option Addr) (len cap : Nat) (most : Int) (hl : len ≤ 1048576) (hI : IsB w a len) (hm0 : 2 ≤ most) (hm1 : most ≤ 9) :
    Calls Tryz.prog 5 #[.slice a len cap, .int .i64 most] w (LinesPost w) := by
  have hA1 := b1 w (.cells #[.slice none 0 0, .int .i64 0, .slice none 0 0] 26)
  have hA2 := b1 (w.alloc (.cells #[.slice none 0 0, .int .i64 0, .slice none 0 0] 26)) (.cells #[.slice a len cap, .int .i64 0, .int .u64 0] 54)
  have hR1 : Room w.heap.size 3 (w.alloc (.cells #[.slice none 0 0, .int .i64 0, .slice none 0 0] 26)) := Room.lit _ _ _ 3 (by simp)
  have hC1 := Cur.new w _ (w.heap.size + 1) a len cap 54 hl hI hA1 (by rw [World.size_alloc])
  have hR2 := hR1.keep (Mid.ofBelow (lo := 0) (hi := 0) hA2 (Nat.zero_le _))
  have hD := drawLine_any w (w.heap.size + 1) 0 most _ (by omega) hm0 hm1 hC1
  clear hR1 hA1
  go_enter Tryz.func5, Tryz.ntmps5
  go_wp2_with (go_at_call 19; fail)
  refine hD.mono ?_
  rintro _ w2 ⟨l, hDr, ⟨L, at_, ct, aT, cT, hlL, rfl, hown⟩, hC2, hM2⟩
  have hR3 := hR2.keep hM2
  rw [World.size_alloc, World.size_alloc] at hown
  have hbase := hC2.base
  clear hD hA2 hC1 hR2 hM2 hC2
  obtain ⟨x0, e0, f0⟩ := hR3 0 (by omega)
  obtain ⟨x1, e1, f1⟩ := hR3 1 (by omega)
  obtain ⟨x2, e2, f2⟩ := hR3 2 (by omega)
  have hlL' : Hid _ := hlL
  clear hlL
  go_wp2
  refine bodyPost_ret (v := .agg #[.slice at_ l.tracks.length ct, .int .i64 l.gap, .slice aT L.length cT]) (by simp [results, Tryz.results5, go_sem, e0, e1, e2]) rfl ⟨l, hDr, L, at_, ct, aT, cT, hlL'.out, rfl, ?_, ?_⟩
  · exact (((hown.set ⟨w.heap.size, _, none⟩ (by show w.heap.size < w.heap.size + 1 + 1; omega) _).set ⟨w.heap.size, _, none⟩ (by show w.heap.size < w.heap.size + 1 + 1; omega) _).set ⟨w.heap.size, _, none⟩ (by show w.heap.size < w.heap.size + 1 + 1; omega) _).low (by omega)
  · exact ((hbase.setCell (p := ⟨w.heap.size, _, none⟩) (Nat.le_refl _) _).setCell (p := ⟨w.heap.size, _, none⟩) (Nat.le_refl _) _).setCell (p := ⟨w.heap.size, _, none⟩) (Nat.le_refl _) _
end Go.Proofs.YtnjaegeapcijpaaGreatDoor

namespace Go.Proofs.YtnjaegeapcijpaaGreatDoor
open Go.RowKit

theorem infoParts {P : Program} {t : TypeId} {z : Value} {s b : Nat} (h : (P.info? t).map (fun i => (i.zero, i.size, i.bytes)) = some (some z, s, b)) : ∃ i, P.info? t = some i ∧ i.zero = some z ∧ i.size = s ∧ i.bytes = b := by
  cases hi : P.info? t with
  | none => rw [hi] at h; simp at h
  | some i => rw [hi] at h; simp at h; exact ⟨i, rfl, h.1, h.2.1, h.2.2⟩
theorem Tryz.infoStr : (Tryz.prog.info? 9).map (fun i => (i.zero, i.size, i.bytes)) = some (some (.string ⟨#[]⟩), 1, 16) := by kernel_rfl
theorem oneS_lie {W : World} {x : Value} {t : TypeId} : ∀ (j : Nat) (u : Value), [x][j]? = some u → (W.alloc (.cells #[x] t)).cell? ((⟨W.heap.size, 0, none⟩ : Addr).add j) = some u := by
  intro j u hj
  match j, hj with
  | 0, hj => simp at hj; subst hj; simp [Addr.add]
theorem oneS {x : ByteArray} : ∀ u ∈ [Value.string x], u.oneCell' = true := by
  intro u hu; simp only [List.mem_cons, List.not_mem_nil, or_false] at hu; rcases hu with rfl; rfl
theorem rowLater {W W' : World} {b0 : Nat} {e : TypeId} {size : Nat} {v : Value} {n : Nat} {xs : List Value} (h : W.ownsRow b0 e size v n xs) (hB : Below W.heap.size W W') : W'.ownsRow b0 e size v n xs := by
  obtain ⟨hl, h0 | ⟨g, cap, cur, hv, hb, hh, r⟩⟩ := h
  · exact ⟨hl, .inl h0⟩
  · have hg : g < W.heap.size := by
      rcases Nat.lt_or_ge g W.heap.size with h1 | h1
      · exact h1
      · rw [Array.getElem?_eq_none h1] at hh
        cases hh
    exact ⟨hl, .inr ⟨g, cap, cur, hv, hb, by rw [hB.block g hg]; exact hh, r⟩⟩
theorem wordsOf_len : ∀ k, (wordsOf k).length ≤ 4
  | 0 => by simp [wordsOf]
  | 1 => by simp [wordsOf]
  | 2 => by simp [wordsOf]
  | _ + 3 => by simp [wordsOf]

theorem joinTail_len (sep : List UInt8) : ∀ L : List (List UInt8), (∀ x ∈ L, x.length ≤ 8) → (Lib.joinTail sep L).length ≤ L.length * (sep.length + 8)
  | [], _ => by simp [Lib.joinTail]
  | x :: L, h => by
    have h1 := joinTail_len sep L (fun y hy => h y (List.mem_cons_of_mem _ hy))
    have h2 := h x (List.mem_cons_self ..)
    have h3 : (Lib.joinTail sep (x :: L)).length = sep.length + x.length + (Lib.joinTail sep L).length := by simp [Lib.joinTail]; omega
    rw [h3, List.length_cons, Nat.add_mul]; omega
theorem words_small : ∀ kd, ∀ x ∈ wordsOf kd, x.length ≤ 8
  | 0 => by simp [wordsOf]
  | 1 => by simp [wordsOf]
  | 2 => by simp [wordsOf]
  | _ + 3 => by simp [wordsOf]
theorem parts_small {kd n : Nat} {ns : Nat → Int} (h : ∀ i, i < n → 0 ≤ ns i ∧ ns i ≤ 99999999) : ∀ i, i ≤ n → ∀ x ∈ partsOf (wordsOf kd) ns i, x.length ≤ 8
  | 0, _ => by simp [partsOf]
  | i + 1, hi => by
    have h1 := parts_small (kd := kd) h i (by omega)
    have h2 := itoa_len (h i (by omega)).1 (h i (by omega)).2
    intro x hx
    unfold partsOf at hx
    split at hx
    · rename_i hw
      simp only [List.mem_append, List.mem_cons, List.not_mem_nil, or_false] at hx
      rcases hx with (hx | rfl) | rfl
      · exact h1 x hx
      · rw [List.getD_eq_getElem?_getD, List.getElem?_eq_getElem hw]
        exact words_small kd _ (List.getElem_mem hw)
      · exact h2
    · simp only [List.mem_append, List.mem_cons, List.not_mem_nil, or_false] at hx
      rcases hx with hx | rfl
      · exact h1 x hx
      · exact h2
theorem parts_join_len {kd n : Nat} {ns : Nat → Int} (h : ∀ i, i < n → 0 ≤ ns i ∧ ns i ≤ 99999999) {i : Nat} (hi : i ≤ n) (hn : n ≤ 12) : (Lib.join (partsOf (wordsOf kd) ns i) [32]).length ≤ 1000 := by
  have h1 := parts_small (kd := kd) h i hi
  have h2 := partsOf_len (wordsOf kd) ns i
  cases hp : partsOf (wordsOf kd) ns i with
  | nil => simp [Lib.join]
  | cons x L =>
    rw [hp] at h1 h2
    rw [Lib.join_cons, List.length_append]
    have h3 := joinTail_len [32] L (fun y hy => h1 y (List.mem_cons_of_mem _ hy))
    have h4 := h1 x (List.mem_cons_self ..)
    simp only [List.length_cons, List.length_nil] at *
    omega
theorem joinI_any (v : Value) (L : List (List UInt8)) (w : World) {B : Nat} (ho : w.ownsRow B 9 1 v L.length (strCells L)) (hL : L.length ≤ 1000) (hl : (Lib.join L [32]).length ≤ 1000) :
    Calls Tryz.prog 73 #[v, .string ⟨#[32]⟩] w fun e w' => e = .returned (.string (ba (Lib.join L [32]))) ∧ Below w.heap.size w w' := by
  have hmap : (L.map ba).map (·.data.toList) = L := by rw [List.map_map]; conv => rhs; rw [← List.map_id L]
                                                       apply List.map_congr_left
                                                       intro x _
                                                       exact ba_list x
  rcases ho.2 with ⟨e0, h0⟩ | ⟨g, cp, cur, e0, hb, hg, hnc, hcell⟩
  · subst e0
    have hnil : L = [] := List.eq_nil_of_length_eq_zero h0
    subst hnil
    have h : Calls Tryz.prog 73 #[.slice none 0 0, .string ⟨#[32]⟩] w fun e w' => e = .returned (.string ⟨#[]⟩) ∧ w' = w := Go.Proofs.Any.strings_Join_none Tryz.lays156 Tryz.Builder_Extra_156 none 0 ⟨#[32]⟩ w
    refine h.mono ?_
    rintro _ _ ⟨rfl, rfl⟩
    exact ⟨rfl, Below.refl _ _⟩
  · subst e0
    have hc : ∀ (j : Nat) x, (L.map ba)[j]? = some x → w.cell? ⟨g, 0 + j, none⟩ = some (.string x) := fun j x hx => by
      have hj : j < L.length := by
        have := (List.getElem?_eq_some_iff.1 hx).1
        simpa using this
      rw [Nat.zero_add, ho.cellAt j (by omega)]
      rw [List.getElem?_map] at hx
      obtain ⟨y, hy, rfl⟩ := Option.map_eq_some_iff.1 hx
      exact strCells_at L j y hy
    have h : Calls Tryz.prog 73 #[.slice (some ⟨g, 0, none⟩) (L.map ba).length cp, .string ⟨#[32]⟩] w fun e w' => e = .returned (.string ⟨(Lib.join ((L.map ba).map (·.data.toList)) [32]).toArray⟩) ∧ Below w.heap.size w w' :=
      Go.Proofs.Any.strings_Join Tryz.lays156 Tryz.Builder_Extra_156 g 0 cp (L.map ba) ⟨#[32]⟩ w hc (ho.lt g rfl).2 (by simp; omega) (by simp; omega) (by rw [hmap]; exact Nat.le_trans hl (by decide))
    rw [hmap, List.length_map] at h
    exact h
theorem parts_step {W wr w' : World} {v v' : Value} {L : List (List UInt8)} {x : List UInt8} {B : Nat} (hB : Below B W wr) (hBs : B ≤ wr.heap.size) (h : wr.ownsRow B 9 1 v L.length (strCells L))
    (ho : w'.ownsRow B 9 1 v' (L.length + 1) (strCells L ++ [.string (ba x)])) (hg : wr.grownBy w' v.ownBlock) :
    w'.ownsRow B 9 1 v' (L ++ [x]).length (strCells (L ++ [x])) ∧ Below B W w' :=
  ⟨by rw [strCells_app, List.length_append]; exact ho, hB.grown hg hBs (fun j hj => (h.lt j hj).1)⟩

set_option maxRecDepth 20000 in
set_option maxHeartbeats 8000000 in
theorem rowOf_any (kd : Nat) (ns : Nat → Int) (n : Nat) (na : Option Addr) (nc : Nat) (w : World) (hkd : kd < 4) (hn : n ≤ 12) (hns : ∀ i, i < n → 0 ≤ ns i ∧ ns i ≤ 99999999)
    (hI : IsInts 0 w.heap.size w na n ns) (hW : WordsIs w) (hTn : TenIs w) :
    Calls Tryz.prog 44 #[.int .i64 kd, .slice na n nc] w fun e w' => e = .returned (.string (ba (rowT (wordsOf kd) ns n))) ∧ Below w.heap.size w w' := by
  obtain ⟨i0, hi, hz0, hz1, hz2⟩ := infoParts Tryz.infoStr
  obtain ⟨bw, ow, cw, hw0, hwc⟩ := hW kd hkd
  have hkd' : (kd : Int) < 4 := by omega
  have hkd0 : (0 : Int) ≤ (kd : Int) := by omega
  have hwl := wordsOf_len kd
  go_enter Tryz.func44, Tryz.ntmps44
  go_wp2
  go_loopw [5, 10] (fun pp ii wr => ∃ (i : Nat), i ≤ n ∧ ii = .int .i64 i ∧ wr.ownsRow w.heap.size 9 1 pp (partsOf (wordsOf kd) ns i).length (strCells (partsOf (wordsOf kd) ns i)) ∧ Below w.heap.size w wr) (fun _ ii _ => n - (intOf ii).toNat)
  case atStart => exact ⟨0, Nat.zero_le _, rfl, World.ownsRow_nil _ _ _ _, Below.refl _ _⟩
  case round =>
    obtain ⟨i, hile, rfl, hown, hB⟩ := hrel
    have hpl := partsOf_len (wordsOf kd) ns i
    have hszW := hB.size
    by_cases hlt : i < n
    · have hi' : (i : Int) < (n : Int) := by omega
      have hi0 : (0 : Int) ≤ (i : Int) := by omega
      obtain ⟨h0, h1⟩ := hns i hlt
      obtain ⟨b, off, rfl, _, hb, q0⟩ := hI i hlt
      replace q0 := cellLater hB q0
      have v0 := cellLater hB hw0
      by_cases hiw : i < (wordsOf kd).length
      · have hiw' : (i : Int) < ((wordsOf kd).length : Int) := by omega
        obtain ⟨x, hx⟩ : ∃ x, (wordsOf kd)[i]? = some x := ⟨_, List.getElem?_eq_getElem hiw⟩
        have v1 := cellLater hB (hwc i x hx)
        have hpt : Hid (partsOf (wordsOf kd) ns (i + 1) = (partsOf (wordsOf kd) ns i ++ [x]) ++ [Lib.itoa (ns i)]) := by
          unfold Hid
          rw [partsOf, if_pos hiw]
          have : (wordsOf kd).getD i [] = x := by rw [List.getD, hx]; rfl
          rw [this]
        clear hx
        generalize partsOf (wordsOf kd) ns i = L at hown hpl hpt
        go_wp2_with (at_builtin; refine wpList_append_own _ rfl _ _ 119 rfl w.heap.size 9 i0 _ 1 16 Tryz.underlying119 hi hz0 hz1 hz2 rfl (by decide) _ _ _ rfl (hown.alloc _) ⟨wr.heap.size, 0, none⟩ 1 1 [.string (ba x)] rfl rfl oneS_lie oneS (by unfold maxLen; omega) (by omega) (by simp only [World.size_alloc]; omega) ?_)
        intro v4 w4 hown4 hgrow4 _
        obtain ⟨hown5, hB4⟩ := parts_step (x := x) (Below.join hB (Nat.le_refl _) (b1 wr (.cells #[.string (ba x)] 9))) (by simp only [World.size_alloc]; omega) (hown.alloc _) hown4 hgrow4
        have hl4 : (L ++ [x]).length ≤ 2 * i + 1 := by rw [List.length_append]; simp; omega
        have hszX := hB4.size
        generalize L ++ [x] = L4 at hown5 hpt hl4
        have hdec := itoaI_any (ns i) w4 h0 h1 (hTn.later hB4)
        clear hown4 hgrow4 hown q0 v0 v1
        go_wp2_with (first | (go_at_call 72; refine hdec.mono ?_; rintro _ w3 ⟨rfl, hB3⟩; clear hdec) | (at_builtin; refine wpList_append_own _ rfl _ _ 119 rfl w.heap.size 9 i0 _ 1 16 Tryz.underlying119 hi hz0 hz1 hz2 rfl (by decide) _ _ _ rfl ((rowLater hown5 hB3).alloc _) ⟨w3.heap.size, 0, none⟩ 1 1 [.string (ba (Lib.itoa (ns i)))] rfl rfl oneS_lie oneS (by unfold maxLen; omega) (by omega) (by have h2 := hB3.size; simp only [World.size_alloc]; omega) ?_))
        intro v' w6 hown' hgrow _
        obtain ⟨hown2, hB6⟩ := parts_step (Below.join (Below.join hB4 (Nat.le_refl _) hB3) (Nat.le_refl _) (b1 w3 (.cells #[.string (ba (Lib.itoa (ns i)))] 9))) (by have h2 := hB3.size; simp only [World.size_alloc]; omega) ((rowLater hown5 hB3).alloc _) hown' hgrow
        rw [← hpt.out] at hown2
        clear hown' hgrow hown5
        go_wp2
        go_roundw
        case rel => exact ⟨i + 1, by omega, by go_num, hown2, hB6⟩
        case measure => simp [intOf]; omega
      · have hiw' : ¬ ((i : Int) < ((wordsOf kd).length : Int)) := by omega
        have hpt : Hid (partsOf (wordsOf kd) ns (i + 1) = partsOf (wordsOf kd) ns i ++ [Lib.itoa (ns i)]) := by
          unfold Hid
          rw [partsOf, if_neg hiw]
        generalize partsOf (wordsOf kd) ns i = L at hown hpl hpt
        have hdec := itoaI_any (ns i) wr h0 h1 (hTn.later hB)
        go_wp2_with (first | (go_at_call 72; refine hdec.mono ?_; rintro _ w3 ⟨rfl, hB3⟩; clear hdec) | (at_builtin; refine wpList_append_own _ rfl _ _ 119 rfl w.heap.size 9 i0 _ 1 16 Tryz.underlying119 hi hz0 hz1 hz2 rfl (by decide) _ _ _ rfl ((rowLater hown hB3).alloc _) ⟨w3.heap.size, 0, none⟩ 1 1 [.string (ba (Lib.itoa (ns i)))] rfl rfl oneS_lie oneS (by unfold maxLen; omega) (by omega) (by have h2 := hB3.size; simp only [World.size_alloc]; omega) ?_))
        intro v' w6 hown' hgrow _
        obtain ⟨hown2, hB6⟩ := parts_step (Below.join (Below.join hB (Nat.le_refl _) hB3) (Nat.le_refl _) (b1 w3 (.cells #[.string (ba (Lib.itoa (ns i)))] 9))) (by have h2 := hB3.size; simp only [World.size_alloc]; omega) ((rowLater hown hB3).alloc _) hown' hgrow
        rw [← hpt.out] at hown2
        clear hown' hgrow hown
        go_wp2
        go_roundw
        case rel => exact ⟨i + 1, by omega, by go_num, hown2, hB6⟩
        case measure => simp [intOf]; omega
    · obtain rfl : i = n := by omega
      have hjl : (Lib.join (partsOf (wordsOf kd) ns i) [32]).length ≤ 1000 := parts_join_len hns (Nat.le_refl _) hn
      have hrt : Hid (rowT (wordsOf kd) ns i = Lib.join (partsOf (wordsOf kd) ns i) [32] ++ [10]) := rfl
      have hjn := joinI_any _ _ wr hown (by omega) hjl
      generalize partsOf (wordsOf kd) ns i = L at hown hpl hjl hrt hjn
      obtain ⟨sj, hsj⟩ : ∃ sj, sj = ba (Lib.join L [32]) := ⟨_, rfl⟩
      rw [← hsj] at hjn
      obtain ⟨r1, e1, f1⟩ := cat sj ⟨#[10]⟩ _ [10] hsj rfl (by simp; omega)
      clear hsj
      go_wp2_with (go_at_call 73; refine hjn.mono ?_; rintro _ w3 ⟨rfl, hB3⟩)
      go_ret
      exact ⟨by rw [hrt.out, ← f1.out]; rfl, Below.join hB (Nat.le_refl _) hB3⟩
end Go.Proofs.YtnjaegeapcijpaaGreatDoor

namespace Go.Proofs.YtnjaegeapcijpaaGreatDoor
open Go.RowKit

theorem ints1_new (W : World) (x : Int) (t : TypeId) : IsInts 0 (W.alloc (.cells #[.int .i64 x] t)).heap.size (W.alloc (.cells #[.int .i64 x] t)) (some ⟨W.heap.size, 0, none⟩) 1 (fun i => [x].getD i 0) := fun j hj => by
  obtain rfl : j = 0 := by omega
  exact ⟨W.heap.size, 0, rfl, Nat.zero_le _, by simp, by simp⟩
theorem ints3_new (W : World) (x y z : Int) (t : TypeId) (bk : Nat) (hbk : W.heap.size = bk) : IsInts 0 (W.alloc (.cells #[.int .i64 x, .int .i64 y, .int .i64 z] t)).heap.size (W.alloc (.cells #[.int .i64 x, .int .i64 y, .int .i64 z] t)) (some ⟨bk, 0, none⟩) 3 (fun i => [x, y, z].getD i 0) := fun j hj => by
  subst hbk
  exact ⟨W.heap.size, 0, rfl, Nat.zero_le _, by simp, by match j, hj with
    | 0, _ => simp
    | 1, _ => simp
    | 2, _ => simp⟩
theorem ints4_new (W : World) (x y z u : Int) (t : TypeId) (bk : Nat) (hbk : W.heap.size = bk) : IsInts 0 (W.alloc (.cells #[.int .i64 x, .int .i64 y, .int .i64 z, .int .i64 u] t)).heap.size (W.alloc (.cells #[.int .i64 x, .int .i64 y, .int .i64 z, .int .i64 u] t)) (some ⟨bk, 0, none⟩) 4 (fun i => [x, y, z, u].getD i 0) := fun j hj => by
  subst hbk
  exact ⟨W.heap.size, 0, rfl, Nat.zero_le _, by simp, by match j, hj with
    | 0, _ => simp
    | 1, _ => simp
    | 2, _ => simp
    | 3, _ => simp⟩
theorem below_alloc {n : Nat} {A B : World} (h : Below n A B) (hn : n ≤ A.heap.size) (o : Obj) : Below n A (B.alloc o) := h.alloc (Nat.le_trans hn h.size) _

set_option maxRecDepth 20000 in
set_option maxHeartbeats 8000000 in
theorem implWrite_any (a : Option Addr) (len cap : Nat) (g : Nat → Int) (gap : Int) (a' : Option Addr) (np cap' : Nat) (f : Nat → TrainD) (w : World) (hl : len ≤ 1048576) (hl' : np ≤ 1048576) (hml : ∀ j, j < np → (f j).nl ≤ 1048576)
    (hI : IsInts 0 w.heap.size w a len g) (hT : IsTrains 0 w.heap.size w a' np f) (hg : w.cell? ⟨1, 0, none⟩ = some (.iface 194 (.agg #[.pointer (some ⟨10, 131, none⟩)]))) (hW : WordsIs w) (hTn : TenIs w) :
    Calls Tryz.prog 12 #[.agg #[.slice a len cap, .int .i64 gap, .slice a' np cap']] w fun e w' => e = .returned (.string (ba (writeOf len g gap np f))) ∧ Below w.heap.size w w' := by
  have hN := b1 w (.cells #[.slice a len cap, .int .i64 gap, .slice a' np cap'] 26)
  obtain ⟨y0, y1, y2⟩ := new3 w (.slice a len cap) (.int .i64 gap) (.slice a' np cap') 26
  by_cases hF : (faultOf len g gap np f).1 = 0
  · have hF0 := faultOf_snd hF
    have hS := smallL_of hF0
    have hA : writeOf len g gap np f = lineT len g gap np f := by unfold writeOf; rw [if_pos hF]
    rw [hA]
    have hok := isRight_yes a len cap g gap a' np cap' f _ hl hl' hml (hI.grow hN) (hT.grow hN) (cellLater hN hg) hF0
    clear hA hF hF0
    have h12 := hS.l12
    have h5 := hS.n5
    have hl1 := hS.l1
    obtain ⟨s0, hs0⟩ : ∃ s0, s0 = ba (rowT (wordsOf 0) g len) := ⟨_, rfl⟩
    obtain ⟨s1, hs1⟩ : ∃ s1, s1 = ba (rowT (wordsOf 1) (fun i => [gap].getD i 0) 1) := ⟨_, rfl⟩
    have hr0 : ∀ (V : World) (args : Array Value), args = #[.int .i64 0, .slice a len cap] → Below w.heap.size w V → Calls Tryz.prog 44 args V fun e w' => e = .returned (.string s0) ∧ Below V.heap.size V w' := fun V args ha hV => by
      subst ha; rw [hs0]
      exact rowOf_any 0 g len a cap V (by omega) h12 hS.tk (hI.grow hV) (hW.later hV) (hTn.later hV)
    have hr1 : ∀ (V : World) (args : Array Value) (bk : Nat), args = #[.int .i64 1, .slice (some ⟨bk, 0, none⟩) 1 1] → Below w.heap.size w V → V.cell? ⟨bk, 0, none⟩ = some (.int .i64 gap) → Calls Tryz.prog 44 args V fun e w' => e = .returned (.string s1) ∧ Below V.heap.size V w' := fun V args bk ha hV hc => by
      subst ha; rw [hs1]
      refine rowOf_any 1 (fun i => [gap].getD i 0) 1 (some ⟨bk, 0, none⟩) 1 V (by omega) (by omega) (fun i hi => ?_) (fun j hj => ?_) (hW.later hV) (hTn.later hV)
      · obtain rfl : i = 0 := by omega
        exact hS.gp
      · obtain rfl : j = 0 := by omega
        exact ⟨bk, 0, rfl, Nat.zero_le _, ltCell hc, hc⟩
    have hhe := head_eq g gap hl1
    have hhl := headT_len hS
    have hl01 : (rowT (wordsOf 0) g len).length + (rowT (wordsOf 1) (fun i => [gap].getD i 0) 1).length ≤ 200 := by rw [← List.length_append, hhe]; exact hhl
    obtain ⟨r1, e1, f1⟩ := cat s0 s1 _ _ hs0 hs1 (by omega)
    have hr1h : Hid (r1 = ba (headT len g gap)) := by unfold Hid; rw [f1.out, hhe]
    clear f1 hs0 hs1 hhe hl01
    go_enter Tryz.func12, Tryz.ntmps12
    go_wp2_with (go_at_call 40; refine hok.mono ?_; rintro _ W ⟨rfl, hB2⟩; have hB := Below.join hN (Nat.le_refl _) hB2; have x0 := cellLater hB2 y0; have x1 := cellLater hB2 y1; have x2 := cellLater hB2 y2)
    clear hok hB2 hN y0 y1 y2
    have hBV : Below w.heap.size w W.drew := hB.drew
    go_region_held3 (fun w' => w'.cell? ⟨w.heap.size, 0, none⟩ = some (.slice a len cap) ∧ w'.cell? ⟨w.heap.size, 1, none⟩ = some (.int .i64 gap) ∧ w'.cell? ⟨w.heap.size, 2, none⟩ = some (.slice a' np cap')) (first | go_keep | (go_split_ands; refine ⟨?_, ?_, ?_⟩ <;> exact cellLater hB3 (by assumption)) | (go_split_ands; refine ⟨?_, ?_, ?_⟩ <;> exact cellLater hB4 (by assumption))) ((first | (go_at_call 44; refine (hr0 _ _ (by rfl) (by first | exact hBV | exact below_alloc hBV (Nat.le_refl _) _)).mono ?_; rintro _ w3 ⟨rfl, hB3⟩) | (go_at_call 44; refine (hr1 _ _ _ (by rfl) (by first | exact Below.join hBV (Nat.le_refl _) hB3 | exact below_alloc (Below.join hBV (Nat.le_refl _) hB3) (Nat.le_refl _) _ | exact Below.join (below_alloc hBV (Nat.le_refl _) _) (Nat.le_refl _) hB3) (by first | (simp; done) | exact cellLater hB3 (by simp))).mono ?_; rintro _ w4 ⟨rfl, hB4⟩)))
    all_goals
      have hWx : Below W.heap.size W w4 := by first | exact Below.join (below_alloc (Below.join (Below.refl W.heap.size W).drew (Nat.le_refl _) hB3) (Nat.le_refl _) _) (Nat.le_refl _) hB4 | exact Below.join (Below.join (below_alloc (Below.refl W.heap.size W).drew (Nat.le_refl _) _) (Nat.le_refl _) hB3) (Nat.le_refl _) hB4
      have hBv := Below.join hB (Nat.le_refl _) hWx
      have z2 := cellLater hWx x2
      clear hr0 hr1 e1 hB3 hB4 hWx x0 x1 x2 hBV hB
      go_wp2
      clear z2
      go_loopw [3, 22] (fun oo jj wr => ∃ (j : Nat), j ≤ np ∧ jj = .int .i64 j ∧ oo = .string (ba (trainsT f (headT len g gap) j)) ∧ Below w4.heap.size w4 wr) (fun _ jj _ => np - (intOf jj).toNat)
      case atStart => exact ⟨0, Nat.zero_le _, rfl, by rw [hr1h.out]; rfl, Below.refl _ _⟩
      case round =>
        clear hr1h
        obtain ⟨j, hj, rfl, rfl, hBj⟩ := hrel
        obtain ⟨sj, hsj⟩ : ∃ sj, sj = ba (trainsT f (headT len g gap) j) := ⟨_, rfl⟩
        rw [← hsj]
        have hsj' : Hid _ := hsj
        clear hsj
        have hlj := trainsT_len (b := headT len g gap) hS j hj
        by_cases hlt : j < np
        · have hj' : (j : Int) < (np : Int) := by omega
          have hj0 : (0 : Int) ≤ (j : Int) := by omega
          obtain ⟨hns, hnl⟩ := hS.tr j hlt
          have htl := trainT_len hns
          have hBk := Below.join hBv (Nat.le_refl _) hBj
          obtain ⟨b, off, la, lc, rfl, _, hb', t0, t1, t2, t3, t4, hlg, _⟩ := hT j hlt
          replace t0 := cellLater hBk t0
          replace t1 := cellLater hBk t1
          replace t2 := cellLater hBk t2
          replace t3 := cellLater hBk t3
          replace t4 := cellLater hBk t4
          have hA1 := b2 wr (.cells #[.int .i64 (f j).frm, .int .i64 (f j).ready, .int .i64 (f j).due, .int .i64 (f j).weight, .slice la (f j).nl lc] 71) (.cells #[.int .i64 (f j).frm, .int .i64 (f j).ready, .int .i64 (f j).due, .int .i64 (f j).weight] 3)
          have hBa := Below.join hBk (Nat.le_refl _) hA1
          obtain ⟨r8, h8⟩ : ∃ r8, r8 = ba (trainT (f j)) := ⟨_, rfl⟩
          obtain ⟨r9, e9, f9⟩ := cat sj r8 _ _ hsj'.out h8 (by omega)
          have hrow := rowOf_any 2 (fun i => [(f j).frm, (f j).ready, (f j).due, (f j).weight].getD i 0) 4 _ 4 _ (by omega) (by omega) (fun i hi => by match i, hi with
            | 0, _ => exact hns.1
            | 1, _ => exact hns.2.1
            | 2, _ => exact hns.2.2.1
            | 3, _ => exact hns.2.2.2) (ints4_new (wr.alloc (.cells #[.int .i64 (f j).frm, .int .i64 (f j).ready, .int .i64 (f j).due, .int .i64 (f j).weight, .slice la (f j).nl lc] 71)) (f j).frm (f j).ready (f j).due (f j).weight 3 (wr.heap.size + 1) (by simp)) (hW.later hBa) (hTn.later hBa)
          rw [rowT_train, ← h8] at hrow
          have c4 : ((wr.alloc (.cells #[.int .i64 (f j).frm, .int .i64 (f j).ready, .int .i64 (f j).due, .int .i64 (f j).weight, .slice la (f j).nl lc] 71)).alloc (.cells #[.int .i64 (f j).frm, .int .i64 (f j).ready, .int .i64 (f j).due, .int .i64 (f j).weight] 3)).cell? ⟨wr.heap.size, 4, none⟩ = some (.slice la (f j).nl lc) := cellLater (b1 _ _) (by simp)
          clear h8
          go_wp2_with (go_at_call 44; refine hrow.mono ?_; rintro _ w6 ⟨rfl, hB6⟩; replace c4 := cellLater hB6 c4)
          have hBx := Below.join hBa (Nat.le_refl _) hB6
          have hB7 := Below.join (Below.join hBj (Nat.le_refl _) hA1) (Nat.le_refl _) hB6
          have hr9 : Hid (r9 = ba (trainsT f (headT len g gap) j ++ trainT (f j))) := f9
          have hlb : (trainsT f (headT len g gap) j ++ trainT (f j)).length ≤ 3000 := by rw [List.length_append]; omega
          obtain ⟨B, hBe⟩ : ∃ B, B = trainsT f (headT len g gap) j ++ trainT (f j) := ⟨_, rfl⟩
          rw [← hBe] at hr9 hlb
          have hBe' : Hid _ := hBe
          clear hBe c4 e9 f9 hrow hA1 hB6 hsj' hlj hBa t0 t1 t2 t3 t4
          go_loopw [3, 41] (fun oo mm wr2 => ∃ (m : Nat), m ≤ (f j).nl ∧ mm = .int .i64 m ∧ oo = .string (ba (legsT (f j) B m)) ∧ Below w4.heap.size w4 wr2) (fun _ mm _ => (f j).nl - (intOf mm).toNat)
          case atStart => exact ⟨0, Nat.zero_le _, rfl, by rw [hr9.out]; rfl, hB7⟩
          case round =>
            clear hr9 hB7 hBx
            obtain ⟨m, hm, rfl, rfl, hBm⟩ := hrel
            obtain ⟨sm, hsm⟩ : ∃ sm, sm = ba (legsT (f j) B m) := ⟨_, rfl⟩
            rw [← hsm]
            have hsm' : Hid _ := hsm
            clear hsm
            have hlm := legsT_len (t := f j) (b := B) (fun m hm => legT_len (hS.leg j hlt m hm)) m hm
            by_cases hmlt : m < (f j).nl
            · have hm' : (m : Int) < ((f j).nl : Int) := by omega
              have hm0 : (0 : Int) ≤ (m : Int) := by omega
              have hls := hS.leg j hlt m hmlt
              have hll := legT_len hls
              have hBw := Below.join hBv (Nat.le_refl _) hBm
              obtain ⟨bl, ol, rfl, _, hbl, g0, g1, g2⟩ := hlg m hmlt
              replace g0 := cellLater hBw g0
              replace g1 := cellLater hBw g1
              replace g2 := cellLater hBw g2
              have hA1 := b2 wr (.cells #[.int .i64 ((f j).leg m).to, .int .i64 ((f j).leg m).run, .int .i64 ((f j).leg m).stay] 73) (.cells #[.int .i64 ((f j).leg m).to, .int .i64 ((f j).leg m).run, .int .i64 ((f j).leg m).stay] 3)
              have hBa := Below.join hBw (Nat.le_refl _) hA1
              obtain ⟨r6, h6⟩ : ∃ r6, r6 = ba (legT ((f j).leg m)) := ⟨_, rfl⟩
              obtain ⟨r7, e7, f7⟩ := cat sm r6 _ _ hsm'.out h6 (by omega)
              have hrow := rowOf_any 3 (fun i => [((f j).leg m).to, ((f j).leg m).run, ((f j).leg m).stay].getD i 0) 3 _ 3 _ (by omega) (by omega) (fun i hi => by match i, hi with
                | 0, _ => exact hls.1
                | 1, _ => exact hls.2.1
                | 2, _ => exact hls.2.2) (ints3_new (wr.alloc (.cells #[.int .i64 ((f j).leg m).to, .int .i64 ((f j).leg m).run, .int .i64 ((f j).leg m).stay] 73)) ((f j).leg m).to ((f j).leg m).run ((f j).leg m).stay 3 (wr.heap.size + 1) (by simp)) (hW.later hBa) (hTn.later hBa)
              rw [rowT_leg, ← h6] at hrow
              have hr7 : Hid (r7 = ba (legsT (f j) B (m + 1))) := f7
              clear h6 f7
              go_wp2_with (go_at_call 44; refine hrow.mono ?_; rintro _ w6 ⟨rfl, hB6⟩)
              go_roundw
              case rel => exact ⟨m + 1, by omega, by go_num, by rw [hr7.out], Below.join (Below.join hBm (Nat.le_refl _) hA1) (Nat.le_refl _) hB6⟩
              case measure => simp [intOf]; omega
            · obtain rfl : m = (f j).nl := by omega
              go_wp2
              go_roundw
              case rel => exact ⟨j + 1, by omega, by go_num, by rw [hsm'.out, hBe'.out]; rfl, hBm⟩
              case measure => simp [intOf]; omega
        · obtain rfl : j = np := by omega
          go_wp2
          go_ret
          exact ⟨by rw [hsj'.out]; rfl, Below.join hBv (Nat.le_refl _) hBj⟩
  · have hA : writeOf len g gap np f = [] := by unfold writeOf; rw [if_neg hF]
    rw [hA]
    have hok := isRight_no a len cap g gap a' np cap' f _ hl hl' hml (hI.grow hN) (hT.grow hN) (cellLater hN hg) hF
    clear hA hF
    go_enter Tryz.func12, Tryz.ntmps12
    go_wp2_with (go_at_call 40; refine hok.mono ?_; rintro _ w2 ⟨rfl, hB2⟩)
    go_ret
    exact ⟨rfl, Below.join hN (Nat.le_refl _) hB2⟩
end Go.Proofs.YtnjaegeapcijpaaGreatDoor
