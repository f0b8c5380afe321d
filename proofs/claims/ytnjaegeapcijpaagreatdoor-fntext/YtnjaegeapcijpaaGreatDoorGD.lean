/-
  The program's reader: a train, with its legs.
  The program's reader: with a line of a call's own.
  The program's reader: a line.
  The program's reader: it reads, or tells at which row it left.
-/
import Derived.Test.YtnjaegeapcijpaaGreatDoorGC
import Derived.Defers
import Derived.Recover
namespace Go.Proofs.YtnjaegeapcijpaaGreatDoor
open Go.RowKit

theorem legW_at {w0 : World} (hL : LaidR w0) : ∃ bw ow cw, w0.cell? ⟨0, 3, none⟩ = some (.slice (some ⟨bw, ow, none⟩) 3 cw) ∧ w0.cell? ⟨bw, ow, none⟩ = some (.string (ba legW)) := by
  obtain ⟨bw, ow, cw, h0, h1⟩ := hL.words 3 (by decide)
  exact ⟨bw, ow, cw, h0, h1 0 legW rfl⟩
theorem Rd.set {w0 W : World} {b : Nat} {s : Bs} {row : Int} (h : Rd w0 b s row W) (p : Addr) (hp : b < p.block) (x : Value) : Rd w0 b s row (W.setCell p x) := by
  have hlo := h.lo
  have hb : (W.setCell p x).heap[b]? = W.heap[b]? := Below.heap_setCell W p x b (by omega)
  have cc : ∀ o u, W.cell? ⟨b, o, none⟩ = some u → (W.setCell p x).cell? ⟨b, o, none⟩ = some u := fun o u hu => (World.cell?_of_block (w := W) (w' := W.setCell p x) (a := ⟨b, o, none⟩) hb).trans hu
  exact ⟨h.base.setCell (by omega) x, h.lo, cc 0 _ h.c0, cc 1 _ h.c1, (World.frozen?_setCell ..).trans h.z0, (World.frozen?_setCell ..).trans h.z1⟩
def restLen (b : Nat) (W : World) : Nat := match W.cell? ⟨b, 0, none⟩ with
  | some (.string x) => x.size
  | _ => 0
theorem Rd.len {w0 W : World} {b : Nat} {s : Bs} {row : Int} (h : Rd w0 b s row W) : restLen b W = s.length := by unfold restLen; rw [h.c0]; exact ba_size s

set_option maxRecDepth 20000 in
set_option maxHeartbeats 8000000 in
theorem train_any (w0 : World) (b : Nat) (s : Bs) (n : Nat) (l : LnL) (xs : List Bs) (r : Bs) (w : World) (hR : Rd w0 b s ((n : Int) + 1) w) (hL : LaidR w0) (hs : s.length ≤ 4000) (hn : 2 ≤ n) (hn2 : n + xs.length ≤ 5000) (hLf : Left s l n xs r) (hs0 : s ≠ []) (hl : l.trains = [] ∨ legW.isPrefixOf s = false) :
    Calls Tryz.prog 105 #[.pointer (some ⟨b, 0, none⟩)] w fun e w' => (∃ n' : Nat, trainOk xs r = false ∧ goM l n xs r = .inr (n' + 1) ∧ Quit b ((n' : Int) + 1) w e w') ∨ ∃ t lv s' n' xs', trainOk xs r = true ∧ goM l n xs r = goM { l with trains := l.trains ++ [t] } n' xs' r ∧ Left s' { l with trains := l.trains ++ [t] } n' xs' r ∧ n' + xs'.length = n + xs.length ∧ n < n' ∧ s'.length < s.length ∧ t.legs.length ≤ n' ∧ legW.isPrefixOf s' = false ∧
      e = .returned (.agg #[.int .i64 t.frm, .int .i64 t.ready, .int .i64 t.due, .int .i64 t.weight, lv]) ∧ OwnLegs w.heap.size w' lv t.legs ∧ Rd w0 b s' ((n' : Int) + 1) w' ∧ Mid b (b + 1) w w' := by
  have hblt : b < w.heap.size := ltCell hR.c0
  have hA := b1 w (.cells #[.int .i64 0, .int .i64 0, .int .i64 0, .int .i64 0, .slice none 0 0] 71)
  rcases train_step hLf hn hs0 hl with ⟨hno, hg, hok⟩ | ⟨a, s1, xs1, hy, hok, hxl, hLf1, hg⟩
  · have hN := numbers_no (kd := 2) (by decide) (hR.later hA) hL hs hno
    go_enter Tryz.func105, Tryz.ntmps105
    go_wp2_with (go_at_call 104; refine hN.mono ?_; rintro _ w2 ⟨rfl, hM2⟩)
    exact ⟨rfl, Or.inl ⟨n, hok, hg, rfl, (hR.ofBelow hA).trans hM2⟩⟩
  · obtain ⟨hal, hsl, hrng⟩ := numbersB_good hy
    have hal4 : a.length = 4 := hal
    have hN := numbers_yes (kd := 2) (by decide) (hR.later hA) hL hs (by omega) (by omega) hy
    go_enter Tryz.func105, Tryz.ntmps105
    go_wp2_with (go_at_call 104; refine hN.mono ?_; rintro _ w2 ⟨v, rfl, hown2, hR2, hM2⟩)
    obtain ⟨g, cp, rfl⟩ := Joins.ownsRow_form hown2 (by omega)
    have n0 := ints_at hown2 (j := 0) (by omega)
    have n1 := ints_at hown2 (j := 1) (by omega)
    have n2 := ints_at hown2 (j := 2) (by omega)
    have n3 := ints_at hown2 (j := 3) (by omega)
    have hg2 := (hown2.lt g rfl).2
    rw [hal4]
    have htr : trL a = ⟨a.getD 0 0, a.getD 1 0, a.getD 2 0, a.getD 3 0, []⟩ := rfl
    rw [htr] at hg hLf1
    clear htr
    generalize a.getD 0 0 = a0 at n0 hg hLf1
    generalize a.getD 1 0 = a1 at n1 hg hLf1
    generalize a.getD 2 0 = a2 at n2 hg hLf1
    generalize a.getD 3 0 = a3 at n3 hg hLf1
    go_region_held3 (fun w' => w'.cell? ⟨g, 0, none⟩ = some (.int .i64 a0) ∧ w'.cell? ⟨g, 1, none⟩ = some (.int .i64 a1) ∧ w'.cell? ⟨g, 2, none⟩ = some (.int .i64 a2) ∧ w'.cell? ⟨g, 3, none⟩ = some (.int .i64 a3)) (first | go_keep) (fail)
    have hbt : w2.heap.size < w2.heap.size + 1 := Nat.lt_succ_self _
    have hsz2 := hM2.below.size
    have hsA : (w.alloc (.cells #[.int .i64 0, .int .i64 0, .int .i64 0, .int .i64 0, .slice none 0 0] 71)).heap.size = w.heap.size + 1 := by simp
    have hBv : Below w2.heap.size w2 (w2.alloc (.cells #[.int .i64 a0, .int .i64 a1, .int .i64 a2, .int .i64 a3, .slice none 0 0] 71)).drew := (b1 w2 _).drew
    have hroom : Room w.heap.size 5 (w.alloc (.cells #[.int .i64 0, .int .i64 0, .int .i64 0, .int .i64 0, .slice none 0 0] 71)) := Room.lit _ _ _ 5 (by simp)
    obtain ⟨bt, hbte0⟩ : ∃ bt, bt = w2.heap.size := ⟨_, rfl⟩
    rw [← hbte0]
    have hbte : Hid (bt = w2.heap.size) := hbte0
    have hbtb : w.heap.size + 1 ≤ bt := by omega
    clear hbte0 n0 n1 n2 n3
    go_wp2
    go_loopw [] (fun wr => ∃ (t : TrL) (lv : Value) (s' : Bs) (n' : Nat) (xs' : List Bs), TBox (w.heap.size + 1) bt wr t lv ∧ trainOk xs r = legsOk xs' r ∧ goM l n xs r = goM { l with trains := l.trains ++ [t] } n' xs' r ∧ Left s' { l with trains := l.trains ++ [t] } n' xs' r ∧ n' + xs'.length = n + xs.length ∧ n < n' ∧ s'.length < s.length ∧ t.legs.length ≤ n' ∧ Rd w0 b s' ((n' : Int) + 1) wr ∧ Mid b (b + 1) (w.alloc (.cells #[.int .i64 0, .int .i64 0, .int .i64 0, .int .i64 0, .slice none 0 0] 71)) wr) (fun wr => restLen b wr)
    case atStart =>
      have e1 : ((n : Int) + 1 + 1) = (((n + 1 : Nat) : Int) + 1) := by omega
      rw [e1] at hR2
      refine ⟨⟨a0, a1, a2, a3, []⟩, .slice none 0 0, s1, n + 1, xs1, ⟨?_, ?_, ?_, ?_, ?_, ?_, World.ownsRow_nil _ _ _ _, by simp [Value.ownBlock]⟩, hok, hg, hLf1, by omega, by omega, hsl, Nat.zero_le _, hR2.later hBv, hM2.trans (hR2.ofBelow hBv)⟩
      all_goals (rw [hbte.out]; simp)
    case round =>
      obtain ⟨t, lv, s', n', xs', hTB, hokC, hgo, hLf', hcnt, hnn, hsl', hleg, hRd, hMd⟩ := hrel
      obtain ⟨la, lc, rfl, _⟩ := OwnLegs.legs hTB.legs
      obtain ⟨bw, ow, cw, y0, y1⟩ := legW_at hL
      replace y0 := cellLater hRd.base y0
      replace y1 := cellLater hRd.base y1
      have hszw := hMd.below.size
      have hC := comes_any b s' legW wr hRd.c0
      have hbtlt : b < bt := by omega
      by_cases hp : legW.isPrefixOf s' = true
      · rw [hp] at hC
        rcases leg_step hLf' (by omega) rfl hp with ⟨hno, hg', hok'⟩ | ⟨a', s2, xs2, hy', hok', hxl', hLf2, hg'⟩
        · have hQ := numbers_no (kd := 3) (by decide) hRd hL (by omega) hno
          go_wp2_with (first | (go_at_call 127; refine hC.mono ?_; rintro _ _ ⟨rfl, rfl⟩) | (go_at_call 104; refine hQ.mono ?_; rintro _ wq ⟨rfl, hMq⟩))
          exact ⟨rfl, Or.inl ⟨n', by rw [hokC, hok'], by rw [hgo, hg'], rfl, ((hR.ofBelow hA).trans hMd).trans hMq⟩⟩
        · obtain ⟨hal', hsl2, _⟩ := numbersB_good hy'
          have hal3 : a'.length = 3 := hal'
          have hQ := numbers_yes (kd := 3) (by decide) hRd hL (by omega) (by omega) (by omega) hy'
          go_wp2_with (first | (go_at_call 127; refine hC.mono ?_; rintro _ _ ⟨rfl, rfl⟩) | (go_at_call 104; refine hQ.mono ?_; rintro _ w3 ⟨v3, rfl, hown3, hR3, hM3⟩))
          obtain ⟨g3, cp3, rfl⟩ := Joins.ownsRow_form hown3 (by omega)
          have n0 := ints_at hown3 (j := 0) (by omega)
          have n1 := ints_at hown3 (j := 1) (by omega)
          have n2 := ints_at hown3 (j := 2) (by omega)
          have hg3 := hown3.lt g3 rfl
          have hTB3 := hTB.mid hM3 (by omega) hbtlt
          have hlg : legL a' = ⟨a'.getD 0 0, a'.getD 1 0, a'.getD 2 0⟩ := rfl
          rw [hlg] at hg' hLf2
          rw [hal3]
          generalize a'.getD 0 0 = a0' at n0 hg' hLf2
          generalize a'.getD 1 0 = a1' at n1 hg' hLf2
          generalize a'.getD 2 0 = a2' at n2 hg' hLf2
          have hsz3 := hM3.below.size
          have hA9 := Below.join (Below.refl w3.heap.size w3).drew (Nat.le_refl _) (b1 w3.drew (.cells #[.int .i64 a0', .int .i64 a1', .int .i64 a2'] 73))
          have hTBA := hTB3.later hA9
          obtain ⟨i0, ii, iz0, iz1, iz2⟩ := info3 Tryz.infoLeg
          obtain ⟨v', W1, hap, hown1, hgr1, _, hloc1⟩ := run_append_own_at (P := Tryz.prog) (w3.drew.alloc (.cells #[.int .i64 a0', .int .i64 a1', .int .i64 a2'] 73)) (w.heap.size + 1) 69 69 73 i0 _ 3 24 Tryz.underlying69 ii iz0 iz1 iz2 rfl (by decide) (.slice la t.legs.length lc) t.legs.length (legCells t.legs) hTBA.legs ⟨w3.heap.size, 0, none⟩ 1 1 [.int .i64 a0', .int .i64 a1', .int .i64 a2'] rfl (fun jj u hj => by have h := cells3_lie (W := w3.drew) (x := .int .i64 a0') (y := .int .i64 a1') (z := .int .i64 a2') (t := 73) jj u hj; exact h) one3 (by unfold maxLen; omega) (by omega) (by simp; omega)
          obtain ⟨gn, cn, rfl⟩ := Joins.ownsRow_form hown1 (by omega)
          have hlvb : ∀ k, (Value.slice la t.legs.length lc).ownBlock = some k → k < g3 := fun k hk => by have := (World.ownsRow.lt hTB.legs k hk).2; omega
          have hbtA := ltCell hTBA.c0
          dsimp only at hbtA
          have hg3A : g3 < (w3.drew.alloc (.cells #[.int .i64 a0', .int .i64 a1', .int .i64 a2'] 73)).heap.size := by simp; omega
          have hbk : W1.heap[bt]? = _ := hgr1.block bt hbtA (fun e => hTBA.off e.symm)
          have hgk : W1.heap[g3]? = _ := hgr1.block g3 hg3A (fun e => by have := hlvb g3 e.symm; omega)
          have k0 := (World.cell?_of_block (w' := W1) (a := ⟨g3, 0, none⟩) hgk).trans (cellLater hA9 n0)
          have k1 := (World.cell?_of_block (w' := W1) (a := ⟨g3, 1, none⟩) hgk).trans (cellLater hA9 n1)
          have k2 := (World.cell?_of_block (w' := W1) (a := ⟨g3, 2, none⟩) hgk).trans (cellLater hA9 n2)
          have k4 := (World.cell?_of_block (w' := W1) (a := ⟨bt, 4, none⟩) hbk).trans hTBA.c4
          have kz := (World.frozen?_of_block (w' := W1) (a := ⟨bt, 4, none⟩) hbk).trans hTBA.z4
          have m4 := hTB3.c4
          have m4' : (w3.alloc (.cells #[.int .i64 a0', .int .i64 a1', .int .i64 a2'] 73)).cell? ⟨bt, 4, none⟩ = some (.slice la t.legs.length lc) := cellLater (b1 w3 _) m4
          have hap' : Hid _ := hap
          have hadd := hTBA.add (g := ⟨a0', a1', a2'⟩) hown1 hgr1 hloc1
          have hM1 : Mid b (b + 1) (w.alloc (.cells #[.int .i64 0, .int .i64 0, .int .i64 0, .int .i64 0, .slice none 0 0] 71)) W1 := ((hMd.trans hM3).trans (hR3.ofBelow hA9)).grown hgr1 (fun k hk => by have := (World.ownsRow.lt hTB.legs k hk).1; omega) (by omega)
          have hR1 := (hR3.later hA9).grown hgr1 (fun k hk => by have := (World.ownsRow.lt hTB.legs k hk).1; omega)
          have e9 : ((n' : Int) + 1 + 1) = (((n' + 1 : Nat) : Int) + 1) := by omega
          rw [e9] at hR1
          have hR9 := hR1.set ⟨bt, 4, none⟩ hbtlt (.slice (some ⟨gn, 0, none⟩) (t.legs.length + 1) cn)
          have hM9 := hM1.setNew ⟨bt, 4, none⟩ (by show _ ≤ bt; omega) (by omega) (.slice (some ⟨gn, 0, none⟩) (t.legs.length + 1) cn)
          have hlen9 : Hid _ := hR9.len
          have hlen0 : Hid _ := hRd.len
          have hne : g3 ≠ bt := by have := ltCell hTB.c0; dsimp only at this; omega
          have hne2 : bt ≠ g3 := fun e => hne e.symm
          clear hap hown1 hgr1 hloc1 hbk hgk hown3
          have hSd : w3.drew.cell? ⟨g3, 0, none⟩ = some (.int .i64 a0') ∧ w3.drew.cell? ⟨g3, 1, none⟩ = some (.int .i64 a1') ∧ w3.drew.cell? ⟨g3, 2, none⟩ = some (.int .i64 a2') := ⟨n0, n1, n2⟩
          have hSa := And.intro (cellLater hA9 n0) (And.intro (cellLater hA9 n1) (cellLater hA9 n2))
          have hSw := And.intro k0 (And.intro k1 k2)
          have hSf : (W1.setCell ⟨bt, 4, none⟩ (.slice (some ⟨gn, 0, none⟩) (t.legs.length + 1) cn)).cell? ⟨g3, 0, none⟩ = some (.int .i64 a0') ∧ (W1.setCell ⟨bt, 4, none⟩ (.slice (some ⟨gn, 0, none⟩) (t.legs.length + 1) cn)).cell? ⟨g3, 1, none⟩ = some (.int .i64 a1') ∧ (W1.setCell ⟨bt, 4, none⟩ (.slice (some ⟨gn, 0, none⟩) (t.legs.length + 1) cn)).cell? ⟨g3, 2, none⟩ = some (.int .i64 a2') := by
            refine ⟨?_, ?_, ?_⟩ <;> (rw [World.cell?_setCell_other _ _ _ _ (by intro e; cases e <;> exact hne rfl)]; assumption)
          refine wp_region_held_drew (S := (fun w' => w'.cell? ⟨g3, 0, none⟩ = some (.int .i64 a0') ∧ w'.cell? ⟨g3, 1, none⟩ = some (.int .i64 a1') ∧ w'.cell? ⟨g3, 2, none⟩ = some (.int .i64 a2'))) (by kernel_rfl) hSd (fun hHeld => ?_)
          refine wpAnyH_take (i := 0) (oi := { dst := some 29, op := Go.Op.fieldAddr 71 (Go.Operand.tmp 4) 4, type := 0, pos := "l4_text.go:168", after := #[], guard := none }) (v := ?vv1_0) rfl (by kernel_rfl) (by kernel_rfl) (by kernel_rfl) (fun _ _ _ h => h) (Or.inl ⟨by rfl, ?hy1_0⟩) (by assumption) ?rest1_0
          case hy1_0 =>
            intro w hSw
            (try dsimp only at hSw)
            go_simp
            (try with_reducible rfl)
          simp only [Act.put, List.setIfInBounds_toArray, List.set_cons_zero, List.set_cons_succ]
          refine wpAnyH_take (i := 2) (oi := { dst := some 31, op := Go.Op.move (Go.Operand.tmp 5), type := 23, pos := "l4_text.go:168", after := #[], guard := none }) (v := ?vv2_2) rfl (by kernel_rfl) (by kernel_rfl) (by kernel_rfl) (fun _ _ _ h => h) (Or.inl ⟨by rfl, ?hy2_2⟩) (by assumption) ?rest2_2
          case hy2_2 =>
            intro w hSw
            (try dsimp only at hSw)
            go_simp
            (try with_reducible rfl)
          simp only [Act.put, List.setIfInBounds_toArray, List.set_cons_zero, List.set_cons_succ]
          refine wpAnyH_take (i := 3) (oi := { dst := some 32, op := Go.Op.indexAddr 23 (Go.Operand.tmp 31) (Go.Operand.const (Go.Value.int Go.IntKind.i64 0)), type := 0, pos := "l4_text.go:168", after := #[{ on := 2, ground := Go.Ground.data }], guard := none }) (v := ?vv3_3) rfl (by kernel_rfl) (by kernel_rfl) (by kernel_rfl) (fun _ _ _ h => h) (Or.inl ⟨by rfl, ?hy3_3⟩) (by assumption) ?rest3_3
          case hy3_3 =>
            intro w hSw
            (try dsimp only at hSw)
            go_simp
            (try with_reducible rfl)
          simp only [Act.put, List.setIfInBounds_toArray, List.set_cons_zero, List.set_cons_succ]
          refine wpAnyH_take (i := 4) (oi := { dst := some 33, op := Go.Op.load 3 (Go.Operand.tmp 32), type := 3, pos := "l4_text.go:168", after := #[{ on := 3, ground := Go.Ground.data }], guard := none }) (v := ?vv4_4) rfl (by kernel_rfl) (by kernel_rfl) (by kernel_rfl) (fun _ _ _ h => h) (Or.inl ⟨by rfl, ?hy4_4⟩) (by assumption) ?rest4_4
          case hy4_4 =>
            intro w hSw
            (try dsimp only at hSw)
            go_simp
            (try with_reducible rfl)
          simp only [Act.put, List.setIfInBounds_toArray, List.set_cons_zero, List.set_cons_succ]
          refine wpAnyH_take (i := 5) (oi := { dst := some 34, op := Go.Op.move (Go.Operand.tmp 5), type := 23, pos := "l4_text.go:168", after := #[], guard := none }) (v := ?vv5_5) rfl (by kernel_rfl) (by kernel_rfl) (by kernel_rfl) (fun _ _ _ h => h) (Or.inl ⟨by rfl, ?hy5_5⟩) (by assumption) ?rest5_5
          case hy5_5 =>
            intro w hSw
            (try dsimp only at hSw)
            go_simp
            (try with_reducible rfl)
          simp only [Act.put, List.setIfInBounds_toArray, List.set_cons_zero, List.set_cons_succ]
          refine wpAnyH_take (i := 6) (oi := { dst := some 35, op := Go.Op.indexAddr 23 (Go.Operand.tmp 34) (Go.Operand.const (Go.Value.int Go.IntKind.i64 1)), type := 0, pos := "l4_text.go:168", after := #[{ on := 5, ground := Go.Ground.data }], guard := none }) (v := ?vv6_6) rfl (by kernel_rfl) (by kernel_rfl) (by kernel_rfl) (fun _ _ _ h => h) (Or.inl ⟨by rfl, ?hy6_6⟩) (by assumption) ?rest6_6
          case hy6_6 =>
            intro w hSw
            (try dsimp only at hSw)
            go_simp
            (try with_reducible rfl)
          simp only [Act.put, List.setIfInBounds_toArray, List.set_cons_zero, List.set_cons_succ]
          refine wpAnyH_take (i := 7) (oi := { dst := some 36, op := Go.Op.load 3 (Go.Operand.tmp 35), type := 3, pos := "l4_text.go:168", after := #[{ on := 6, ground := Go.Ground.data }], guard := none }) (v := ?vv7_7) rfl (by kernel_rfl) (by kernel_rfl) (by kernel_rfl) (fun _ _ _ h => h) (Or.inl ⟨by rfl, ?hy7_7⟩) (by assumption) ?rest7_7
          case hy7_7 =>
            intro w hSw
            (try dsimp only at hSw)
            go_simp
            (try with_reducible rfl)
          simp only [Act.put, List.setIfInBounds_toArray, List.set_cons_zero, List.set_cons_succ]
          refine wpAnyH_take (i := 8) (oi := { dst := some 37, op := Go.Op.move (Go.Operand.tmp 5), type := 23, pos := "l4_text.go:168", after := #[], guard := none }) (v := ?vv8_8) rfl (by kernel_rfl) (by kernel_rfl) (by kernel_rfl) (fun _ _ _ h => h) (Or.inl ⟨by rfl, ?hy8_8⟩) (by assumption) ?rest8_8
          case hy8_8 =>
            intro w hSw
            (try dsimp only at hSw)
            go_simp
            (try with_reducible rfl)
          simp only [Act.put, List.setIfInBounds_toArray, List.set_cons_zero, List.set_cons_succ]
          refine wpAnyH_take (i := 9) (oi := { dst := some 38, op := Go.Op.indexAddr 23 (Go.Operand.tmp 37) (Go.Operand.const (Go.Value.int Go.IntKind.i64 2)), type := 0, pos := "l4_text.go:168", after := #[{ on := 8, ground := Go.Ground.data }], guard := none }) (v := ?vv9_9) rfl (by kernel_rfl) (by kernel_rfl) (by kernel_rfl) (fun _ _ _ h => h) (Or.inl ⟨by rfl, ?hy9_9⟩) (by assumption) ?rest9_9
          case hy9_9 =>
            intro w hSw
            (try dsimp only at hSw)
            go_simp
            (try with_reducible rfl)
          simp only [Act.put, List.setIfInBounds_toArray, List.set_cons_zero, List.set_cons_succ]
          refine wpAnyH_take (i := 10) (oi := { dst := some 39, op := Go.Op.load 3 (Go.Operand.tmp 38), type := 3, pos := "l4_text.go:168", after := #[{ on := 9, ground := Go.Ground.data }], guard := none }) (v := ?vv10_10) rfl (by kernel_rfl) (by kernel_rfl) (by kernel_rfl) (fun _ _ _ h => h) (Or.inl ⟨by rfl, ?hy10_10⟩) (by assumption) ?rest10_10
          case hy10_10 =>
            intro w hSw
            (try dsimp only at hSw)
            go_simp
            (try with_reducible rfl)
          simp only [Act.put, List.setIfInBounds_toArray, List.set_cons_zero, List.set_cons_succ]
          refine wpAnyH_take (i := 11) (oi := { dst := some 40, op := Go.Op.build 73 #[(0, Go.Operand.tmp 33), (1, Go.Operand.tmp 36), (2, Go.Operand.tmp 39)], type := 73, pos := "l4_text.go:168", after := #[{ on := 4, ground := Go.Ground.data }, { on := 7, ground := Go.Ground.data }, { on := 10, ground := Go.Ground.data }], guard := none }) (v := ?vv11_11) rfl (by kernel_rfl) (by kernel_rfl) (by kernel_rfl) (fun _ _ _ h => h) (Or.inl ⟨by rfl, ?hy11_11⟩) (by assumption) ?rest11_11
          case hy11_11 =>
            intro w hSw
            (try dsimp only at hSw)
            go_simp
            (try with_reducible rfl)
          simp only [Act.put, List.setIfInBounds_toArray, List.set_cons_zero, List.set_cons_succ]
          refine wpAnyH_ready (rs := [1, 12]) (by kernel_rfl) (by simp) ?_
          refine AllReadyH.cons (o := { dst := some 30, op := Go.Op.load 69 (Go.Operand.tmp 29), type := 69, pos := "l4_text.go:168", after := #[{ on := 0, ground := Go.Ground.data }], guard := none }) rfl (fun K hK => ?_) (AllReadyH.cons (o := { dst := some 41, op := Go.Op.buildSlice 69 1 #[(0, Go.Operand.tmp 40)], type := 69, pos := "l4_text.go:168", after := #[{ on := 11, ground := Go.Ground.data }], guard := none }) rfl (fun K hK => ?_) AllReadyH.nil)
          go_simp
          refine hK.out _ _ hSd (fun hHeld => ?_)
          clear hK K
          (try simp only [Act.put, List.setIfInBounds_toArray, List.set_cons_zero, List.set_cons_succ])
          refine wpAnyH_ready (rs := [12]) (by kernel_rfl) (by simp) ?_
          refine AllReadyH.cons (o := { dst := some 41, op := Go.Op.buildSlice 69 1 #[(0, Go.Operand.tmp 40)], type := 69, pos := "l4_text.go:168", after := #[{ on := 11, ground := Go.Ground.data }], guard := none }) rfl (fun K hK => ?_) AllReadyH.nil
          go_simp
          refine hK.out _ _ hSa (fun hHeld => ?_)
          clear hK K
          (try simp only [Act.put, List.setIfInBounds_toArray, List.set_cons_zero, List.set_cons_succ])
          refine wpAnyH_ready (rs := [13]) (by kernel_rfl) (by simp) ?_
          refine AllReadyH.cons (o := { dst := some 42, op := Go.Op.call { callee := Go.Callee.builtin Go.Builtin.append, args := #[Go.Operand.tmp 30, Go.Operand.tmp 41], argTypes := #[69, 69] }, type := 69, pos := "l4_text.go:168", after := #[{ on := 1, ground := Go.Ground.data }, { on := 12, ground := Go.Ground.data }], guard := none }) rfl (fun K hK => ?_) AllReadyH.nil
          refine step_append_eq _ (by rfl) _ _ _ (by rfl) _ _ _ _ (by rfl) (by rfl) hap'.out ?_
          refine hK.out _ _ hSw (fun hHeld => ?_)
          clear hK K
          (try simp only [Act.put, List.setIfInBounds_toArray, List.set_cons_zero, List.set_cons_succ])
          refine wpAnyH_take (i := 14) (oi := { dst := some 43, op := Go.Op.fieldAddr 71 (Go.Operand.tmp 4) 4, type := 0, pos := "l4_text.go:168", after := #[{ on := 0, ground := Go.Ground.phase }, { on := 1, ground := Go.Ground.phase }, { on := 2, ground := Go.Ground.phase }, { on := 3, ground := Go.Ground.phase }, { on := 4, ground := Go.Ground.phase }, { on := 5, ground := Go.Ground.phase }, { on := 6, ground := Go.Ground.phase }, { on := 7, ground := Go.Ground.phase }, { on := 8, ground := Go.Ground.phase }, { on := 9, ground := Go.Ground.phase }, { on := 10, ground := Go.Ground.phase }, { on := 11, ground := Go.Ground.phase }, { on := 12, ground := Go.Ground.phase }, { on := 13, ground := Go.Ground.phase }], guard := none }) (v := ?vv12_14) rfl (by kernel_rfl) (by kernel_rfl) (by kernel_rfl) (fun _ _ _ h => h) (Or.inl ⟨by rfl, ?hy12_14⟩) (by assumption) ?rest12_14
          case hy12_14 =>
            intro w hSw
            (try dsimp only at hSw)
            go_simp
            (try with_reducible rfl)
          simp only [Act.put, List.setIfInBounds_toArray, List.set_cons_zero, List.set_cons_succ]
          refine wpAnyH_ready (rs := [15]) (by kernel_rfl) (by simp) ?_
          refine AllReadyH.cons (o := { dst := none, op := Go.Op.store 69 (Go.Operand.tmp 43) (Go.Operand.tmp 42), type := 0, pos := "l4_text.go:168", after := #[{ on := 14, ground := Go.Ground.data }, { on := 13, ground := Go.Ground.data }, { on := 13, ground := Go.Ground.chain }, { on := 0, ground := Go.Ground.phase }, { on := 1, ground := Go.Ground.phase }, { on := 2, ground := Go.Ground.phase }, { on := 3, ground := Go.Ground.phase }, { on := 4, ground := Go.Ground.phase }, { on := 5, ground := Go.Ground.phase }, { on := 6, ground := Go.Ground.phase }, { on := 7, ground := Go.Ground.phase }, { on := 8, ground := Go.Ground.phase }, { on := 9, ground := Go.Ground.phase }, { on := 10, ground := Go.Ground.phase }, { on := 11, ground := Go.Ground.phase }, { on := 12, ground := Go.Ground.phase }, { on := 13, ground := Go.Ground.phase }], guard := none }) rfl (fun K hK => ?_) AllReadyH.nil
          go_simp
          refine hK.out _ _ hSf (fun hHeld => ?_)
          clear hK K
          (try simp only [Act.put, List.setIfInBounds_toArray, List.set_cons_zero, List.set_cons_succ])
          refine wpAnyH_done (by kernel_rfl) ?_ _
          rotate_left
          go_simp
          refine hK.out _ _ hSa (fun hHeld => ?_)
          clear hK K
          (try simp only [Act.put, List.setIfInBounds_toArray, List.set_cons_zero, List.set_cons_succ])
          refine wpAnyH_ready (rs := [1]) (by kernel_rfl) (by simp) ?_
          refine AllReadyH.cons (o := { dst := some 30, op := Go.Op.load 69 (Go.Operand.tmp 29), type := 69, pos := "l4_text.go:168", after := #[{ on := 0, ground := Go.Ground.data }], guard := none }) rfl (fun K hK => ?_) AllReadyH.nil
          go_simp
          refine hK.out _ _ hSa (fun hHeld => ?_)
          clear hK K
          (try simp only [Act.put, List.setIfInBounds_toArray, List.set_cons_zero, List.set_cons_succ])
          refine wpAnyH_ready (rs := [13]) (by kernel_rfl) (by simp) ?_
          refine AllReadyH.cons (o := { dst := some 42, op := Go.Op.call { callee := Go.Callee.builtin Go.Builtin.append, args := #[Go.Operand.tmp 30, Go.Operand.tmp 41], argTypes := #[69, 69] }, type := 69, pos := "l4_text.go:168", after := #[{ on := 1, ground := Go.Ground.data }, { on := 12, ground := Go.Ground.data }], guard := none }) rfl (fun K hK => ?_) AllReadyH.nil
          refine step_append_eq _ (by rfl) _ _ _ (by rfl) _ _ _ _ (by rfl) (by rfl) hap'.out ?_
          refine hK.out _ _ hSw (fun hHeld => ?_)
          clear hK K
          (try simp only [Act.put, List.setIfInBounds_toArray, List.set_cons_zero, List.set_cons_succ])
          refine wpAnyH_take (i := 14) (oi := { dst := some 43, op := Go.Op.fieldAddr 71 (Go.Operand.tmp 4) 4, type := 0, pos := "l4_text.go:168", after := #[{ on := 0, ground := Go.Ground.phase }, { on := 1, ground := Go.Ground.phase }, { on := 2, ground := Go.Ground.phase }, { on := 3, ground := Go.Ground.phase }, { on := 4, ground := Go.Ground.phase }, { on := 5, ground := Go.Ground.phase }, { on := 6, ground := Go.Ground.phase }, { on := 7, ground := Go.Ground.phase }, { on := 8, ground := Go.Ground.phase }, { on := 9, ground := Go.Ground.phase }, { on := 10, ground := Go.Ground.phase }, { on := 11, ground := Go.Ground.phase }, { on := 12, ground := Go.Ground.phase }, { on := 13, ground := Go.Ground.phase }], guard := none }) (v := ?vv13_14) rfl (by kernel_rfl) (by kernel_rfl) (by kernel_rfl) (fun _ _ _ h => h) (Or.inl ⟨by rfl, ?hy13_14⟩) (by assumption) ?rest13_14
          case hy13_14 =>
            intro w hSw
            (try dsimp only at hSw)
            go_simp
            (try with_reducible rfl)
          simp only [Act.put, List.setIfInBounds_toArray, List.set_cons_zero, List.set_cons_succ]
          refine wpAnyH_ready (rs := [15]) (by kernel_rfl) (by simp) ?_
          refine AllReadyH.cons (o := { dst := none, op := Go.Op.store 69 (Go.Operand.tmp 43) (Go.Operand.tmp 42), type := 0, pos := "l4_text.go:168", after := #[{ on := 14, ground := Go.Ground.data }, { on := 13, ground := Go.Ground.data }, { on := 13, ground := Go.Ground.chain }, { on := 0, ground := Go.Ground.phase }, { on := 1, ground := Go.Ground.phase }, { on := 2, ground := Go.Ground.phase }, { on := 3, ground := Go.Ground.phase }, { on := 4, ground := Go.Ground.phase }, { on := 5, ground := Go.Ground.phase }, { on := 6, ground := Go.Ground.phase }, { on := 7, ground := Go.Ground.phase }, { on := 8, ground := Go.Ground.phase }, { on := 9, ground := Go.Ground.phase }, { on := 10, ground := Go.Ground.phase }, { on := 11, ground := Go.Ground.phase }, { on := 12, ground := Go.Ground.phase }, { on := 13, ground := Go.Ground.phase }], guard := none }) rfl (fun K hK => ?_) AllReadyH.nil
          go_simp
          refine hK.out _ _ hSf (fun hHeld => ?_)
          clear hK K
          (try simp only [Act.put, List.setIfInBounds_toArray, List.set_cons_zero, List.set_cons_succ])
          refine wpAnyH_done (by kernel_rfl) ?_ _
          all_goals
            go_wp2
            go_roundw
            case rel => exact ⟨t.add ⟨a0', a1', a2'⟩, _, s2, n' + 1, xs2, hadd, by rw [hokC, hok'], by rw [hgo, hg'], hLf2, by omega, by omega, by omega, by unfold TrL.add; simp; omega, hR9, hM9⟩
            case measure => rw [hlen9.out, hlen0.out]; omega
      · rw [Bool.eq_false_iff.2 hp] at hC
        obtain ⟨x0, e0, f0⟩ := hMd.keeps _ _ _ (hroom 0 (by omega)).choose_spec.1 (hroom 0 (by omega)).choose_spec.2
        obtain ⟨x1, e1, f1⟩ := hMd.keeps _ _ _ (hroom 1 (by omega)).choose_spec.1 (hroom 1 (by omega)).choose_spec.2
        obtain ⟨x2, e2, f2⟩ := hMd.keeps _ _ _ (hroom 2 (by omega)).choose_spec.1 (hroom 2 (by omega)).choose_spec.2
        obtain ⟨x3, e3, f3⟩ := hMd.keeps _ _ _ (hroom 3 (by omega)).choose_spec.1 (hroom 3 (by omega)).choose_spec.2
        obtain ⟨x4, e4, f4⟩ := hMd.keeps _ _ _ (hroom 4 (by omega)).choose_spec.1 (hroom 4 (by omega)).choose_spec.2
        have q0 := hTB.c0
        have q1 := hTB.c1
        have q2 := hTB.c2
        have q3 := hTB.c3
        have q4 := hTB.c4
        go_wp2_with (first | (go_at_call 127; refine hC.mono ?_; rintro _ _ ⟨rfl, rfl⟩))
        refine bodyPost_ret (v := .agg #[.int .i64 t.frm, .int .i64 t.ready, .int .i64 t.due, .int .i64 t.weight, .slice la t.legs.length lc]) (by simp [results, Tryz.results105, go_sem, e0, e1, e2, e3, e4]) rfl (Or.inr ⟨t, _, s', n', xs', by rw [hokC, legsOk_end (by rw [← hLf'.text]; exact Bool.eq_false_iff.2 hp)], hgo, hLf', hcnt, hnn, hsl', hleg, Bool.eq_false_iff.2 hp, rfl, ?_, ?_, ?_⟩)
        · exact Joins.ownsRow_le (ownsRow_setCell_below (ownsRow_setCell_below (ownsRow_setCell_below (ownsRow_setCell_below (ownsRow_setCell_below hTB.legs (by simp) _) (by simp) _) (by simp) _) (by simp) _) (by simp) _) (by omega)
        · exact ((((hRd.set _ hblt _).set _ hblt _).set _ hblt _).set _ hblt _).set _ hblt _
        · exact ((((((hR.ofBelow hA).trans hMd).setNew _ (Nat.le_refl _) (by omega) _).setNew _ (Nat.le_refl _) (by omega) _).setNew _ (Nat.le_refl _) (by omega) _).setNew _ (Nat.le_refl _) (by omega) _).setNew _ (Nat.le_refl _) (by omega) _
end Go.Proofs.YtnjaegeapcijpaaGreatDoor

namespace Go.Proofs.YtnjaegeapcijpaaGreatDoor
end Go.Proofs.YtnjaegeapcijpaaGreatDoor

namespace Go.Proofs.YtnjaegeapcijpaaGreatDoor
open Go.RowKit

theorem tracks_no {w0 : World} {b : Nat} {s : Bs} {row : Int} {w : World} (hR : Rd w0 b s row w) (hL : LaidR w0) (hs : s.length ≤ 4000) (hr : 0 ≤ row) (hr1 : row ≤ 1000000) (h : tracksB s = none) :
    Calls Tryz.prog 103 #[.pointer (some ⟨b, 0, none⟩)] w fun e w' => Quit b row w e w' := by
  refine (tracks_any w0 b s row w hR hL hs hr hr1).mono ?_
  rintro e w' (⟨_, hq⟩ | ⟨a, r, v, h1, _⟩)
  · exact hq
  · rw [h] at h1; cases h1
theorem tracks_yes {w0 : World} {b : Nat} {s : Bs} {row : Int} {w : World} {a : List Int} {r : Bs} (hR : Rd w0 b s row w) (hL : LaidR w0) (hs : s.length ≤ 4000) (hr : 0 ≤ row) (hr1 : row ≤ 1000000) (h : tracksB s = some (a, r)) :
    Calls Tryz.prog 103 #[.pointer (some ⟨b, 0, none⟩)] w fun e w' => ∃ at_ ct, e = .returned (.slice at_ a.length ct) ∧ w'.ownsRow w.heap.size 3 1 (.slice at_ a.length ct) a.length (intCells a) ∧ Rd w0 b r (row + 1) w' ∧ Mid b (b + 1) w w' := by
  refine (tracks_any w0 b s row w hR hL hs hr hr1).mono ?_
  rintro e w' (⟨h1, _⟩ | ⟨a', r', v, h1, h2, h3, h4⟩)
  · rw [h] at h1; cases h1
  · rw [h] at h1; cases h1
    obtain ⟨at_, ct, rfl, _⟩ := ownInts h3
    exact ⟨at_, ct, h2, h3, h4⟩

theorem train_no {w0 : World} {b : Nat} {s : Bs} {n : Nat} {l : LnL} {xs : List Bs} {r : Bs} {w : World} (hR : Rd w0 b s ((n : Int) + 1) w) (hL : LaidR w0) (hs : s.length ≤ 4000) (hn : 2 ≤ n) (hn2 : n + xs.length ≤ 5000) (hLf : Left s l n xs r) (hs0 : s ≠ []) (hl : l.trains = [] ∨ legW.isPrefixOf s = false) (hok : trainOk xs r = false) :
    Calls Tryz.prog 105 #[.pointer (some ⟨b, 0, none⟩)] w fun e w' => ∃ n' : Nat, goM l n xs r = .inr (n' + 1) ∧ Quit b ((n' : Int) + 1) w e w' := by
  refine (train_any w0 b s n l xs r w hR hL hs hn hn2 hLf hs0 hl).mono ?_
  rintro e w' (⟨n', _, h⟩ | ⟨t, lv, s', n', xs', h, _⟩)
  · exact ⟨n', h⟩
  · rw [hok] at h; cases h
theorem train_yes {w0 : World} {b : Nat} {s : Bs} {n : Nat} {l : LnL} {xs : List Bs} {r : Bs} {w : World} (hR : Rd w0 b s ((n : Int) + 1) w) (hL : LaidR w0) (hs : s.length ≤ 4000) (hn : 2 ≤ n) (hn2 : n + xs.length ≤ 5000) (hLf : Left s l n xs r) (hs0 : s ≠ []) (hl : l.trains = [] ∨ legW.isPrefixOf s = false) (hok : trainOk xs r = true) :
    Calls Tryz.prog 105 #[.pointer (some ⟨b, 0, none⟩)] w fun e w' => ∃ t la lc s' n' xs', goM l n xs r = goM { l with trains := l.trains ++ [t] } n' xs' r ∧ Left s' { l with trains := l.trains ++ [t] } n' xs' r ∧ n' + xs'.length = n + xs.length ∧ n < n' ∧ s'.length < s.length ∧ t.legs.length ≤ n' ∧ legW.isPrefixOf s' = false ∧
      e = .returned (.agg #[.int .i64 t.frm, .int .i64 t.ready, .int .i64 t.due, .int .i64 t.weight, .slice la t.legs.length lc]) ∧ OwnLegs w.heap.size w' (.slice la t.legs.length lc) t.legs ∧ Rd w0 b s' ((n' : Int) + 1) w' ∧ Mid b (b + 1) w w' := by
  refine (train_any w0 b s n l xs r w hR hL hs hn hn2 hLf hs0 hl).mono ?_
  rintro e w' (⟨n', h, _⟩ | ⟨t, lv, s', n', xs', h, h2, h3, h4, h5, h6, h7, h8, h9, h10, h11⟩)
  · rw [hok] at h; cases h
  · obtain ⟨la, lc, rfl, _⟩ := OwnLegs.legs h10
    exact ⟨t, la, lc, s', n', xs', h2, h3, h4, h5, h6, h7, h8, h9, h10, h11⟩

set_option maxRecDepth 20000 in
set_option maxHeartbeats 8000000 in
theorem line_any (w0 : World) (b : Nat) (s : Bs) (xs : List Bs) (r : Bs) (w : World) (hR : Rd w0 b s 1 w) (hL : LaidR w0) (hs : s.length ≤ 4000) (hxs : xs.length ≤ 4000) (hLf : Left s nilL 0 xs r) :
    Calls Tryz.prog 75 #[.pointer (some ⟨b, 0, none⟩)] w fun e w' => (∃ n' : Nat, goM nilL 0 xs r = .inr (n' + 1) ∧ Quit b ((n' : Int) + 1) w e w') ∨ ∃ tr gap L vt vT, goM nilL 0 xs r = .inl ⟨tr, gap, L.map Prod.fst⟩ ∧ e = .returned (.agg #[vt, .int .i64 gap, vT]) ∧ LOwn w.heap.size w' tr L vt vT ∧ tr.length ≤ 39 ∧ L.length ≤ 5000 ∧ (∀ x ∈ L, x.1.legs.length ≤ 5000) ∧ Mid b (b + 1) w w' := by
  have hblt : b < w.heap.size := ltCell hR.c0
  have hA := b2 w (.cells #[.slice none 0 0, .int .i64 0, .slice none 0 0] 26) (.cells #[.slice none 0 0, .int .i64 0, .slice none 0 0] 26)
  have hRA := hR.later hA
  have hMA := hR.ofBelow hA
  have hsA : ((w.alloc (.cells #[.slice none 0 0, .int .i64 0, .slice none 0 0] 26)).alloc (.cells #[.slice none 0 0, .int .i64 0, .slice none 0 0] 26)).heap.size = w.heap.size + 2 := by simp
  have hLB : LBox (w.heap.size + 2) (w.heap.size + 1) ((w.alloc (.cells #[.slice none 0 0, .int .i64 0, .slice none 0 0] 26)).alloc (.cells #[.slice none 0 0, .int .i64 0, .slice none 0 0] 26)) [] 0 [] (.slice none 0 0) (.slice none 0 0) := by
    refine ⟨?_, ?_, ?_, ?_, ?_, ?_, by omega, ⟨World.ownsRow_nil _ _ _ _, OwnT.nil _ _, fun k e => by simp [Value.ownBlock] at e, fun x hx => absurd hx List.not_mem_nil⟩⟩
    all_goals simp
  have hroom : Room w.heap.size 3 ((w.alloc (.cells #[.slice none 0 0, .int .i64 0, .slice none 0 0] 26)).alloc (.cells #[.slice none 0 0, .int .i64 0, .slice none 0 0] 26)) := (Room.lit _ _ _ 3 (by simp)).below (b1 _ _) (by simp)
  rcases tracks_step hLf with ⟨hno, hg⟩ | ⟨a, s1, xs1, hy, hxl, hLf1, hg⟩
  · have hN := tracks_no hRA hL hs (by decide) (by decide) hno
    go_enter Tryz.func75, Tryz.ntmps75
    go_wp2_with (go_at_call 103; refine hN.mono ?_; rintro _ w2 ⟨rfl, hM2⟩)
    exact ⟨rfl, Or.inl ⟨0, hg, rfl, hMA.trans hM2⟩⟩
  · have hN := tracks_yes hRA hL hs (by decide) (by decide) hy
    obtain ⟨hal, hsl, _⟩ := tracksB_good hy
    simp only [hsA] at hN
    rcases gap_step hLf1 with ⟨hno, hg1⟩ | ⟨a1, s2, xs2, hy1, hxl1, hLf2, hg1⟩
    · go_enter Tryz.func75, Tryz.ntmps75
      go_wp2_with (first | (go_at_call 103; refine hN.mono ?_; rintro _ w2 ⟨at_, ct, rfl, hown2, hR2, hM2⟩; have hLB2 := hLB.mid hM2 (by omega); have x0 := hLB2.c0; have x1 := hLB2.z0; have hLB3 := hLB2.tracks hown2; have hR3 := hR2.set ⟨w.heap.size + 1, 0, none⟩ (by show b < w.heap.size + 1; omega) (.slice at_ a.length ct)) | (go_at_call 104; refine (numbers_no (kd := 1) (by decide) hR3 hL (by omega) hno).mono ?_; rintro _ w4 ⟨rfl, hM4⟩))
      exact ⟨rfl, Or.inl ⟨1, by rw [hg, hg1], rfl, ((hMA.trans hM2).setNew ⟨w.heap.size + 1, 0, none⟩ (by show w.heap.size ≤ w.heap.size + 1; omega) (by omega) _).trans hM4⟩⟩
    · obtain ⟨hal1, hsl1, _⟩ := numbersB_good hy1
      have hal11 : a1.length = 1 := hal1
      obtain ⟨gp, hgp0⟩ : ∃ gp, gp = a1.getD 0 0 := ⟨_, rfl⟩
      rw [← hgp0] at hg1 hLf2
      have hgp : Hid (gp = a1.getD 0 0) := hgp0
      clear hgp0
      go_enter Tryz.func75, Tryz.ntmps75
      go_wp2_with (first | (go_at_call 103; refine hN.mono ?_; rintro _ w2 ⟨at_, ct, rfl, hown2, hR2, hM2⟩; have hLB2 := hLB.mid hM2 (by omega); have x0 := hLB2.c0; have x1 := hLB2.z0; have hLB3 := hLB2.tracks hown2; have hR3 := hR2.set ⟨w.heap.size + 1, 0, none⟩ (by show b < w.heap.size + 1; omega) (.slice at_ a.length ct)) | (go_at_call 104; refine (numbers_yes (kd := 1) (by decide) hR3 hL (by omega) (by decide) (by decide) hy1).mono ?_; rintro _ w4 ⟨v4, rfl, hown4, hR4, hM4⟩; obtain ⟨g4, cp4, rfl⟩ := Joins.ownsRow_form hown4 (by omega); have n0 := ints_at hown4 (j := 0) (by omega); rw [← hgp.out] at n0; have hLB4 := hLB3.mid hM4 (by omega); have y1 := hLB4.c1; have yz := hLB4.z1; (try rw [hal11])))
      have hLB5 := hLB4.gap_ gp
      have hR5 := hR4.set ⟨w.heap.size + 1, 1, none⟩ (by show b < w.heap.size + 1; omega) (.int .i64 gp)
      have hM5 : Mid b (b + 1) w (w4.setCell ⟨w.heap.size + 1, 1, none⟩ (.int .i64 gp)) := (((hMA.trans hM2).setNew ⟨w.heap.size + 1, 0, none⟩ (by show w.heap.size ≤ w.heap.size + 1; omega) (by omega) _).trans hM4).setNew ⟨w.heap.size + 1, 1, none⟩ (by show w.heap.size ≤ w.heap.size + 1; omega) (by omega) _
      have hroom5 : Room w.heap.size 3 (w4.setCell ⟨w.heap.size + 1, 1, none⟩ (.int .i64 gp)) := (((hroom.keep hM2).set _ _).keep hM4).set _ _
      clear hroom hsA hLB hLB2 hLB3 hLB4 hMA hA hRA hM2 hM4 hR2 hR3 hR4 hown2 hown4 x0 x1 y1 yz n0 hN
      go_loopw [] (fun wr => ∃ (L : List TrV) (vT : Value) (sC : Bs) (nC : Nat) (xsC : List Bs), LBox (w.heap.size + 2) (w.heap.size + 1) wr a gp L (.slice at_ a.length ct) vT ∧ goM nilL 0 xs r = goM ⟨a, gp, L.map Prod.fst⟩ nC xsC r ∧ Left sC ⟨a, gp, L.map Prod.fst⟩ nC xsC r ∧ nC + xsC.length = xs.length ∧ 2 ≤ nC ∧ sC.length ≤ 4000 ∧ (L.map Prod.fst = [] ∨ legW.isPrefixOf sC = false) ∧ L.length ≤ nC ∧ (∀ x ∈ L, x.1.legs.length ≤ 5000) ∧ Rd w0 b sC ((nC : Int) + 1) wr ∧ Mid b (b + 1) w wr ∧ Room w.heap.size 3 wr) (fun wr => restLen b wr)
      case atStart => exact ⟨[], _, s2, 2, xs2, hLB5, by rw [hg, hg1]; rfl, hLf2, by omega, by omega, by omega, Or.inl rfl, by simp, fun x hx => absurd hx List.not_mem_nil, hR5, hM5, hroom5⟩
      case round =>
        obtain ⟨L, vT, sC, nC, xsC, hLBC, hgo, hLfC, hcnt, hn2, hsC, hleg, hLl, hll, hRd, hMd, hroomC⟩ := hrel
        obtain ⟨aT, cT, rfl, _⟩ := hLBC.own.trs.trains (fun x hx => by have := hll x hx; unfold maxLen; omega)
        have hszw := hMd.below.size
        have hblw := ltCell hLBC.c0
        dsimp only at hblw
        have r0 := hRd.c0
        by_cases hsn : sC = []
        · have hcmp : (ba sC).toList.isEmpty = true := by rw [ba_toList, hsn]; rfl
          obtain ⟨x0, e0, f0⟩ := hroomC 0 (by omega)
          obtain ⟨x1, e1, f1⟩ := hroomC 1 (by omega)
          obtain ⟨x2, e2, f2⟩ := hroomC 2 (by omega)
          have q0 := hLBC.c0
          have q1 := hLBC.c1
          have q2 := hLBC.c2
          generalize ba sC = SC at r0 hcmp
          go_wp2
          refine bodyPost_ret (v := .agg #[.slice at_ a.length ct, .int .i64 gp, .slice aT L.length cT]) (by simp [results, Tryz.results75, go_sem, e0, e1, e2]) rfl (Or.inr ⟨a, gp, L, _, _, ?_, rfl, ?_, hal, by omega, hll, ?_⟩)
          · rw [hgo]
            have hx0 : xsC = [] ∧ r = [] := by
              have h2 := hLfC.text
              rw [hsn] at h2
              have h3 := congrArg List.length h2
              have h4 := unl_length xsC r
              rw [← h3] at h4
              simp only [List.length_nil] at h4
              exact ⟨List.eq_nil_of_length_eq_zero (by omega), List.eq_nil_of_length_eq_zero (by omega)⟩
            rw [hx0.1, hx0.2]
            simp only [goM]
            rw [if_neg]
            simp
            omega
          · exact (((hLBC.own.set _ (by show w.heap.size < w.heap.size + 2; omega) _).set _ (by show w.heap.size < w.heap.size + 2; omega) _).set _ (by show w.heap.size < w.heap.size + 2; omega) _).low (by omega)
          · exact ((hMd.setNew _ (Nat.le_refl _) (by omega) _).setNew _ (Nat.le_refl _) (by omega) _).setNew _ (Nat.le_refl _) (by omega) _
        · have hcmp : (ba sC).toList.isEmpty = false := by rw [ba_toList]; simpa using hsn
          have hbd : Below wr.heap.size wr wr.drew := (Below.refl _ wr).drew
          have q2 := hLBC.c2
          have hRdd := hRd.later hbd
          have hdsz : wr.drew.heap.size = wr.heap.size := rfl
          have hLBd := hLBC.later hbd
          generalize ba sC = SC at r0 hcmp
          by_cases hok : trainOk xsC r = true
          · have hTr := train_yes hRdd hL hsC hn2 (by omega) hLfC hsn hleg hok
            obtain ⟨i0, ii, iz0, iz1, iz2⟩ := info3 Tryz.infoTrain
            go_wp2
            refine wp_region_held_drew (S := (fun _ => True)) (by kernel_rfl) trivial (fun hHeld => ?_)
            refine wpAnyH_take (i := 0) (oi := { dst := some 17, op := Go.Op.fieldAddr 26 (Go.Operand.tmp 3) 2, type := 0, pos := "l4_text.go:147", after := #[], guard := none }) (v := ?vv1_0) rfl (by kernel_rfl) (by kernel_rfl) (by kernel_rfl) (fun _ _ _ h => h) (Or.inl ⟨by rfl, ?hy1_0⟩) (by assumption) ?rest1_0
            case hy1_0 =>
              intro w hSw
              (try dsimp only at hSw)
              go_simp
              (try with_reducible rfl)
            simp only [Act.put, List.setIfInBounds_toArray, List.set_cons_zero, List.set_cons_succ]
            refine wpAnyH_take (i := 2) (oi := { dst := some 19, op := Go.Op.move (Go.Operand.tmp 0), type := 165, pos := "l4_text.go:147", after := #[], guard := none }) (v := ?vv2_2) rfl (by kernel_rfl) (by kernel_rfl) (by kernel_rfl) (fun _ _ _ h => h) (Or.inl ⟨by rfl, ?hy2_2⟩) (by assumption) ?rest2_2
            case hy2_2 =>
              intro w hSw
              (try dsimp only at hSw)
              go_simp
              (try with_reducible rfl)
            simp only [Act.put, List.setIfInBounds_toArray, List.set_cons_zero, List.set_cons_succ]
            refine wpAnyH_ready (rs := [1, 3]) (by kernel_rfl) (by simp) ?_
            refine AllReadyH.cons (o := { dst := some 18, op := Go.Op.load 24 (Go.Operand.tmp 17), type := 24, pos := "l4_text.go:147", after := #[{ on := 0, ground := Go.Ground.data }], guard := none }) rfl (fun K hK => ?_) (AllReadyH.cons (o := { dst := some 20, op := Go.Op.call { callee := Go.Callee.value (Go.Operand.func 105), args := #[Go.Operand.tmp 19], argTypes := #[165] }, type := 71, pos := "l4_text.go:147", after := #[{ on := 2, ground := Go.Ground.data }], guard := none }) rfl (fun K hK => ?_) AllReadyH.nil)
            go_simp
            refine hK.out _ _ trivial (fun hHeld => ?_)
            clear hK K
            (try simp only [Act.put, List.setIfInBounds_toArray, List.set_cons_zero, List.set_cons_succ])
            refine wpAnyH_ready (rs := [3]) (by kernel_rfl) (by simp) ?_
            refine AllReadyH.cons (o := { dst := some 20, op := Go.Op.call { callee := Go.Callee.value (Go.Operand.func 105), args := #[Go.Operand.tmp 19], argTypes := #[165] }, type := 71, pos := "l4_text.go:147", after := #[{ on := 2, ground := Go.Ground.data }], guard := none }) rfl (fun K hK => ?_) AllReadyH.nil
            go_simp
            refine hTr.mono ?_
            rintro _ w2 ⟨t, la, lc, s', n', xs', k1, k2, k3, k4, k5, k6, k7, rfl, k9, k10, k11⟩; have hLB2 := hLBd.mid k11 (by omega); have hA9 := b1 w2 (.cells #[.int .i64 t.frm, .int .i64 t.ready, .int .i64 t.due, .int .i64 t.weight, .slice la t.legs.length lc] 71); have hLBA := hLB2.later hA9; have hsz2 := k11.below.size; obtain ⟨v', W1, hap, hown1, hgr1, _, hloc1⟩ := run_append_own_at (P := Tryz.prog) (w2.alloc (.cells #[.int .i64 t.frm, .int .i64 t.ready, .int .i64 t.due, .int .i64 t.weight, .slice la t.legs.length lc] 71)) (w.heap.size + 2) 24 24 71 i0 _ 5 56 Tryz.underlying24 ii iz0 iz1 iz2 rfl (by decide) (.slice aT L.length cT) L.length (trCells L) hLBA.own.trs.row ⟨w2.heap.size, 0, none⟩ 1 1 [.int .i64 t.frm, .int .i64 t.ready, .int .i64 t.due, .int .i64 t.weight, .slice la t.legs.length lc] rfl cells5_lie TrV_one (by unfold maxLen; omega) (by omega) (by simp only [World.size_alloc]; omega); have hap' : Hid _ := hap; obtain ⟨gn, cn, rfl⟩ := Joins.ownsRow_form hown1 (by omega); have m2 := hLB2.c2; have m2' := hLBA.c2; have hbk : W1.heap[w.heap.size + 1]? = _ := hgr1.block (w.heap.size + 1) (ltCell hLBA.c0) (fun e => by have := (hLBA.own.trs.lt (Or.inl e.symm)).1; omega); have m3 := (World.cell?_of_block (w' := W1) (a := ⟨w.heap.size + 1, 2, none⟩) hbk).trans hLBA.c2; have mz := (World.frozen?_of_block (w' := W1) (a := ⟨w.heap.size + 1, 2, none⟩) hbk).trans hLBA.z2; clear hap hbk
            refine hK.out _ _ trivial (fun hHeld => ?_)
            clear hK K
            (try simp only [Act.put, List.setIfInBounds_toArray, List.set_cons_zero, List.set_cons_succ])
            refine wpAnyH_ready (rs := [4]) (by kernel_rfl) (by simp) ?_
            refine AllReadyH.cons (o := { dst := some 21, op := Go.Op.buildSlice 24 1 #[(0, Go.Operand.tmp 20)], type := 24, pos := "l4_text.go:147", after := #[{ on := 3, ground := Go.Ground.data }], guard := none }) rfl (fun K hK => ?_) AllReadyH.nil
            go_simp
            refine hK.out _ _ trivial (fun hHeld => ?_)
            clear hK K
            (try simp only [Act.put, List.setIfInBounds_toArray, List.set_cons_zero, List.set_cons_succ])
            refine wpAnyH_ready (rs := [5]) (by kernel_rfl) (by simp) ?_
            refine AllReadyH.cons (o := { dst := some 22, op := Go.Op.call { callee := Go.Callee.builtin Go.Builtin.append, args := #[Go.Operand.tmp 18, Go.Operand.tmp 21], argTypes := #[24, 24] }, type := 24, pos := "l4_text.go:147", after := #[{ on := 1, ground := Go.Ground.data }, { on := 4, ground := Go.Ground.data }, { on := 3, ground := Go.Ground.chain }], guard := none }) rfl (fun K hK => ?_) AllReadyH.nil
            refine step_append_eq _ (by rfl) _ _ _ (by rfl) _ _ _ _ (by rfl) (by rfl) hap'.out ?_
            refine hK.out _ _ trivial (fun hHeld => ?_)
            clear hK K
            (try simp only [Act.put, List.setIfInBounds_toArray, List.set_cons_zero, List.set_cons_succ])
            refine wpAnyH_take (i := 6) (oi := { dst := some 23, op := Go.Op.fieldAddr 26 (Go.Operand.tmp 3) 2, type := 0, pos := "l4_text.go:147", after := #[{ on := 0, ground := Go.Ground.phase }, { on := 1, ground := Go.Ground.phase }, { on := 2, ground := Go.Ground.phase }, { on := 3, ground := Go.Ground.phase }, { on := 4, ground := Go.Ground.phase }, { on := 5, ground := Go.Ground.phase }], guard := none }) (v := ?vv3_6) rfl (by kernel_rfl) (by kernel_rfl) (by kernel_rfl) (fun _ _ _ h => h) (Or.inl ⟨by rfl, ?hy3_6⟩) (by assumption) ?rest3_6
            case hy3_6 =>
              intro w hSw
              (try dsimp only at hSw)
              go_simp
              (try with_reducible rfl)
            simp only [Act.put, List.setIfInBounds_toArray, List.set_cons_zero, List.set_cons_succ]
            refine wpAnyH_ready (rs := [7]) (by kernel_rfl) (by simp) ?_
            refine AllReadyH.cons (o := { dst := none, op := Go.Op.store 24 (Go.Operand.tmp 23) (Go.Operand.tmp 22), type := 0, pos := "l4_text.go:147", after := #[{ on := 6, ground := Go.Ground.data }, { on := 5, ground := Go.Ground.data }, { on := 5, ground := Go.Ground.chain }, { on := 0, ground := Go.Ground.phase }, { on := 1, ground := Go.Ground.phase }, { on := 2, ground := Go.Ground.phase }, { on := 3, ground := Go.Ground.phase }, { on := 4, ground := Go.Ground.phase }, { on := 5, ground := Go.Ground.phase }], guard := none }) rfl (fun K hK => ?_) AllReadyH.nil
            go_simp
            refine hK.out _ _ trivial (fun hHeld => ?_)
            clear hK K
            (try simp only [Act.put, List.setIfInBounds_toArray, List.set_cons_zero, List.set_cons_succ])
            refine wpAnyH_done (by kernel_rfl) ?_ _
            rotate_left
            go_simp
            refine hTr.mono ?_
            rintro _ w2 ⟨t, la, lc, s', n', xs', k1, k2, k3, k4, k5, k6, k7, rfl, k9, k10, k11⟩; have hLB2 := hLBd.mid k11 (by omega); have hA9 := b1 w2 (.cells #[.int .i64 t.frm, .int .i64 t.ready, .int .i64 t.due, .int .i64 t.weight, .slice la t.legs.length lc] 71); have hLBA := hLB2.later hA9; have hsz2 := k11.below.size; obtain ⟨v', W1, hap, hown1, hgr1, _, hloc1⟩ := run_append_own_at (P := Tryz.prog) (w2.alloc (.cells #[.int .i64 t.frm, .int .i64 t.ready, .int .i64 t.due, .int .i64 t.weight, .slice la t.legs.length lc] 71)) (w.heap.size + 2) 24 24 71 i0 _ 5 56 Tryz.underlying24 ii iz0 iz1 iz2 rfl (by decide) (.slice aT L.length cT) L.length (trCells L) hLBA.own.trs.row ⟨w2.heap.size, 0, none⟩ 1 1 [.int .i64 t.frm, .int .i64 t.ready, .int .i64 t.due, .int .i64 t.weight, .slice la t.legs.length lc] rfl cells5_lie TrV_one (by unfold maxLen; omega) (by omega) (by simp only [World.size_alloc]; omega); have hap' : Hid _ := hap; obtain ⟨gn, cn, rfl⟩ := Joins.ownsRow_form hown1 (by omega); have m2 := hLB2.c2; have m2' := hLBA.c2; have hbk : W1.heap[w.heap.size + 1]? = _ := hgr1.block (w.heap.size + 1) (ltCell hLBA.c0) (fun e => by have := (hLBA.own.trs.lt (Or.inl e.symm)).1; omega); have m3 := (World.cell?_of_block (w' := W1) (a := ⟨w.heap.size + 1, 2, none⟩) hbk).trans hLBA.c2; have mz := (World.frozen?_of_block (w' := W1) (a := ⟨w.heap.size + 1, 2, none⟩) hbk).trans hLBA.z2; clear hap hbk
            refine hK.out _ _ trivial (fun hHeld => ?_)
            clear hK K
            (try simp only [Act.put, List.setIfInBounds_toArray, List.set_cons_zero, List.set_cons_succ])
            refine wpAnyH_ready (rs := [1, 4]) (by kernel_rfl) (by simp) ?_
            refine AllReadyH.cons (o := { dst := some 18, op := Go.Op.load 24 (Go.Operand.tmp 17), type := 24, pos := "l4_text.go:147", after := #[{ on := 0, ground := Go.Ground.data }], guard := none }) rfl (fun K hK => ?_) (AllReadyH.cons (o := { dst := some 21, op := Go.Op.buildSlice 24 1 #[(0, Go.Operand.tmp 20)], type := 24, pos := "l4_text.go:147", after := #[{ on := 3, ground := Go.Ground.data }], guard := none }) rfl (fun K hK => ?_) AllReadyH.nil)
            go_simp
            refine hK.out _ _ trivial (fun hHeld => ?_)
            clear hK K
            (try simp only [Act.put, List.setIfInBounds_toArray, List.set_cons_zero, List.set_cons_succ])
            refine wpAnyH_ready (rs := [4]) (by kernel_rfl) (by simp) ?_
            refine AllReadyH.cons (o := { dst := some 21, op := Go.Op.buildSlice 24 1 #[(0, Go.Operand.tmp 20)], type := 24, pos := "l4_text.go:147", after := #[{ on := 3, ground := Go.Ground.data }], guard := none }) rfl (fun K hK => ?_) AllReadyH.nil
            go_simp
            refine hK.out _ _ trivial (fun hHeld => ?_)
            clear hK K
            (try simp only [Act.put, List.setIfInBounds_toArray, List.set_cons_zero, List.set_cons_succ])
            refine wpAnyH_ready (rs := [5]) (by kernel_rfl) (by simp) ?_
            refine AllReadyH.cons (o := { dst := some 22, op := Go.Op.call { callee := Go.Callee.builtin Go.Builtin.append, args := #[Go.Operand.tmp 18, Go.Operand.tmp 21], argTypes := #[24, 24] }, type := 24, pos := "l4_text.go:147", after := #[{ on := 1, ground := Go.Ground.data }, { on := 4, ground := Go.Ground.data }, { on := 3, ground := Go.Ground.chain }], guard := none }) rfl (fun K hK => ?_) AllReadyH.nil
            refine step_append_eq _ (by rfl) _ _ _ (by rfl) _ _ _ _ (by rfl) (by rfl) hap'.out ?_
            refine hK.out _ _ trivial (fun hHeld => ?_)
            clear hK K
            (try simp only [Act.put, List.setIfInBounds_toArray, List.set_cons_zero, List.set_cons_succ])
            refine wpAnyH_take (i := 6) (oi := { dst := some 23, op := Go.Op.fieldAddr 26 (Go.Operand.tmp 3) 2, type := 0, pos := "l4_text.go:147", after := #[{ on := 0, ground := Go.Ground.phase }, { on := 1, ground := Go.Ground.phase }, { on := 2, ground := Go.Ground.phase }, { on := 3, ground := Go.Ground.phase }, { on := 4, ground := Go.Ground.phase }, { on := 5, ground := Go.Ground.phase }], guard := none }) (v := ?vv4_6) rfl (by kernel_rfl) (by kernel_rfl) (by kernel_rfl) (fun _ _ _ h => h) (Or.inl ⟨by rfl, ?hy4_6⟩) (by assumption) ?rest4_6
            case hy4_6 =>
              intro w hSw
              (try dsimp only at hSw)
              go_simp
              (try with_reducible rfl)
            simp only [Act.put, List.setIfInBounds_toArray, List.set_cons_zero, List.set_cons_succ]
            refine wpAnyH_ready (rs := [7]) (by kernel_rfl) (by simp) ?_
            refine AllReadyH.cons (o := { dst := none, op := Go.Op.store 24 (Go.Operand.tmp 23) (Go.Operand.tmp 22), type := 0, pos := "l4_text.go:147", after := #[{ on := 6, ground := Go.Ground.data }, { on := 5, ground := Go.Ground.data }, { on := 5, ground := Go.Ground.chain }, { on := 0, ground := Go.Ground.phase }, { on := 1, ground := Go.Ground.phase }, { on := 2, ground := Go.Ground.phase }, { on := 3, ground := Go.Ground.phase }, { on := 4, ground := Go.Ground.phase }, { on := 5, ground := Go.Ground.phase }], guard := none }) rfl (fun K hK => ?_) AllReadyH.nil
            go_simp
            refine hK.out _ _ trivial (fun hHeld => ?_)
            clear hK K
            (try simp only [Act.put, List.setIfInBounds_toArray, List.set_cons_zero, List.set_cons_succ])
            refine wpAnyH_done (by kernel_rfl) ?_ _
            rotate_left
            go_simp
            refine hK.out _ _ trivial (fun hHeld => ?_)
            clear hK K
            (try simp only [Act.put, List.setIfInBounds_toArray, List.set_cons_zero, List.set_cons_succ])
            refine wpAnyH_ready (rs := [1]) (by kernel_rfl) (by simp) ?_
            refine AllReadyH.cons (o := { dst := some 18, op := Go.Op.load 24 (Go.Operand.tmp 17), type := 24, pos := "l4_text.go:147", after := #[{ on := 0, ground := Go.Ground.data }], guard := none }) rfl (fun K hK => ?_) AllReadyH.nil
            go_simp
            refine hK.out _ _ trivial (fun hHeld => ?_)
            clear hK K
            (try simp only [Act.put, List.setIfInBounds_toArray, List.set_cons_zero, List.set_cons_succ])
            refine wpAnyH_ready (rs := [5]) (by kernel_rfl) (by simp) ?_
            refine AllReadyH.cons (o := { dst := some 22, op := Go.Op.call { callee := Go.Callee.builtin Go.Builtin.append, args := #[Go.Operand.tmp 18, Go.Operand.tmp 21], argTypes := #[24, 24] }, type := 24, pos := "l4_text.go:147", after := #[{ on := 1, ground := Go.Ground.data }, { on := 4, ground := Go.Ground.data }, { on := 3, ground := Go.Ground.chain }], guard := none }) rfl (fun K hK => ?_) AllReadyH.nil
            refine step_append_eq _ (by rfl) _ _ _ (by rfl) _ _ _ _ (by rfl) (by rfl) hap'.out ?_
            refine hK.out _ _ trivial (fun hHeld => ?_)
            clear hK K
            (try simp only [Act.put, List.setIfInBounds_toArray, List.set_cons_zero, List.set_cons_succ])
            refine wpAnyH_take (i := 6) (oi := { dst := some 23, op := Go.Op.fieldAddr 26 (Go.Operand.tmp 3) 2, type := 0, pos := "l4_text.go:147", after := #[{ on := 0, ground := Go.Ground.phase }, { on := 1, ground := Go.Ground.phase }, { on := 2, ground := Go.Ground.phase }, { on := 3, ground := Go.Ground.phase }, { on := 4, ground := Go.Ground.phase }, { on := 5, ground := Go.Ground.phase }], guard := none }) (v := ?vv5_6) rfl (by kernel_rfl) (by kernel_rfl) (by kernel_rfl) (fun _ _ _ h => h) (Or.inl ⟨by rfl, ?hy5_6⟩) (by assumption) ?rest5_6
            case hy5_6 =>
              intro w hSw
              (try dsimp only at hSw)
              go_simp
              (try with_reducible rfl)
            simp only [Act.put, List.setIfInBounds_toArray, List.set_cons_zero, List.set_cons_succ]
            refine wpAnyH_ready (rs := [7]) (by kernel_rfl) (by simp) ?_
            refine AllReadyH.cons (o := { dst := none, op := Go.Op.store 24 (Go.Operand.tmp 23) (Go.Operand.tmp 22), type := 0, pos := "l4_text.go:147", after := #[{ on := 6, ground := Go.Ground.data }, { on := 5, ground := Go.Ground.data }, { on := 5, ground := Go.Ground.chain }, { on := 0, ground := Go.Ground.phase }, { on := 1, ground := Go.Ground.phase }, { on := 2, ground := Go.Ground.phase }, { on := 3, ground := Go.Ground.phase }, { on := 4, ground := Go.Ground.phase }, { on := 5, ground := Go.Ground.phase }], guard := none }) rfl (fun K hK => ?_) AllReadyH.nil
            go_simp
            refine hK.out _ _ trivial (fun hHeld => ?_)
            clear hK K
            (try simp only [Act.put, List.setIfInBounds_toArray, List.set_cons_zero, List.set_cons_succ])
            refine wpAnyH_done (by kernel_rfl) ?_ _
            all_goals
              have hlow : ∀ k, (Value.slice aT L.length cT).ownBlock = some k → w.heap.size + 2 ≤ k := fun k hk => (hLBA.own.trs.lt (Or.inl hk)).1
              have hnew : ∀ k, (Value.slice la t.legs.length lc).ownBlock = some k → wr.heap.size ≤ k := fun k hk => (World.ownsRow.lt k9 k hk).1
              have hLB9 := hLBA.snoc hown1 (Joins.ownsRow_le (ownsRow_later k9 hA9) (by omega)) (fun k hk => ⟨fun e => by have := (hLBC.own.ints.lt k e).2; have := hnew k hk; omega, fun e => by have := (hLBC.own.trs.lt (Or.inl e)).2; have := hnew k hk; omega, fun x hx e => by have := (hLBC.own.trs.lt (Or.inr ⟨x, hx, e⟩)).2; have := hnew k hk; omega⟩) hgr1 hloc1
              have hR9 := ((k10.later hA9).grown hgr1 (fun k hk => by have := hlow k hk; omega)).set ⟨w.heap.size + 1, 2, none⟩ (by show b < w.heap.size + 1; omega) (.slice (some ⟨gn, 0, none⟩) (L.length + 1) cn)
              have hM9 := ((((hMd.trans (hRd.ofBelow hbd)).trans k11).trans (k10.ofBelow hA9)).grown hgr1 (fun k hk => by have := hlow k hk; omega) (by omega)).setNew ⟨w.heap.size + 1, 2, none⟩ (by show w.heap.size ≤ w.heap.size + 1; omega) (by omega) (.slice (some ⟨gn, 0, none⟩) (L.length + 1) cn)
              have hroom9 := ((((hroomC.keep (hRd.ofBelow hbd)).keep k11).keep (k10.ofBelow hA9)).grown hgr1 (fun k hk => by have := hlow k hk; omega)).set ⟨w.heap.size + 1, 2, none⟩ (.slice (some ⟨gn, 0, none⟩) (L.length + 1) cn)
              go_wp2
              go_roundw
              case rel => exact ⟨L ++ [(t, .slice la t.legs.length lc)], _, s', n', xs', hLB9, by rw [hgo, k1, List.map_append]; rfl, by rw [List.map_append]; exact k2, by omega, by omega, by omega, Or.inr k7, by rw [List.length_append]; simp; omega, fun x hx => (by rcases List.mem_append.1 hx with hx | hx; exact hll x hx; rw [List.mem_singleton] at hx; subst hx; show t.legs.length ≤ 5000; omega), hR9, hM9, hroom9⟩
              case measure => rw [hR9.len, hRd.len]; omega
          · have hTr := train_no hRdd hL hsC hn2 (by omega) hLfC hsn hleg (Bool.eq_false_iff.2 hok)
            go_wp2
            have hS0 : wr.drew.cell? ⟨w.heap.size + 1, 2, none⟩ = some (.slice aT L.length cT) := q2
            refine wp_region_held_drew (S := (fun w' => w'.cell? ⟨w.heap.size + 1, 2, none⟩ = some (.slice aT L.length cT))) (by kernel_rfl) hS0 (fun hHeld => ?_)
            refine wpAnyH_take (i := 0) (oi := { dst := some 17, op := Go.Op.fieldAddr 26 (Go.Operand.tmp 3) 2, type := 0, pos := "l4_text.go:147", after := #[], guard := none }) (v := ?vv0) rfl (by kernel_rfl) (by kernel_rfl) (by kernel_rfl) (fun _ _ _ h => h) (Or.inl ⟨by rfl, ?hy0⟩) (by assumption) ?rest0
            case hy0 =>
              intro w hSw
              (try dsimp only at hSw)
              go_simp
              (try with_reducible rfl)
            simp only [Act.put, List.setIfInBounds_toArray, List.set_cons_zero, List.set_cons_succ]
            refine wpAnyH_take (i := 1) (oi := { dst := some 18, op := Go.Op.load 24 (Go.Operand.tmp 17), type := 24, pos := "l4_text.go:147", after := #[{ on := 0, ground := Go.Ground.data }], guard := none }) (v := ?vv1) rfl (by kernel_rfl) (by kernel_rfl) (by kernel_rfl) (fun _ _ _ h => h) (Or.inl ⟨by rfl, ?hy1⟩) (by assumption) ?rest1
            case hy1 =>
              intro w hSw
              (try dsimp only at hSw)
              go_simp
              (try with_reducible rfl)
            simp only [Act.put, List.setIfInBounds_toArray, List.set_cons_zero, List.set_cons_succ]
            refine wpAnyH_take (i := 2) (oi := { dst := some 19, op := Go.Op.move (Go.Operand.tmp 0), type := 165, pos := "l4_text.go:147", after := #[], guard := none }) (v := ?vv2) rfl (by kernel_rfl) (by kernel_rfl) (by kernel_rfl) (fun _ _ _ h => h) (Or.inl ⟨by rfl, ?hy2⟩) (by assumption) ?rest2
            case hy2 =>
              intro w hSw
              (try dsimp only at hSw)
              go_simp
              (try with_reducible rfl)
            simp only [Act.put, List.setIfInBounds_toArray, List.set_cons_zero, List.set_cons_succ]
            refine wpAnyH_ready (rs := [3]) (by kernel_rfl) (by simp) ?_
            refine AllReadyH.cons (o := { dst := some 20, op := Go.Op.call { callee := Go.Callee.value (Go.Operand.func 105), args := #[Go.Operand.tmp 19], argTypes := #[165] }, type := 71, pos := "l4_text.go:147", after := #[{ on := 2, ground := Go.Ground.data }], guard := none }) rfl (fun K hK => ?_) AllReadyH.nil
            go_simp
            refine hTr.mono ?_
            rintro _ w2 ⟨n', hq, rfl, hM⟩
            exact ⟨rfl, Or.inl ⟨n', by rw [hgo, hq], rfl, (hMd.trans (hRd.ofBelow hbd)).trans hM⟩⟩
end Go.Proofs.YtnjaegeapcijpaaGreatDoor

namespace Go.Proofs.YtnjaegeapcijpaaGreatDoor
open Go.RowKit

theorem assert_refusal (x : Value) (W : World) : (Instr.typeAssert (.iface 125 x) 20 125 false).run Tryz.prog W = .ok x W := by
  simp [Instr.typeAssert, run_underlying Tryz.underlying125]
theorem field_refusal (x : Int) (W : World) : (Instr.field 125 (.agg #[.int .i64 x]) 0).run Tryz.prog W = .ok (.int .i64 x) W := by kernel_rfl
set_option maxRecDepth 20000 in
set_option maxHeartbeats 2000000 in
theorem catch_panicking (p : Addr) (x row : Int) (w : World) (hc : w.cell? p = some (.int .i64 x)) (hz : w.frozen? p = false) :
    CallsD Tryz.prog 74 #[.pointer (some p)] (.panicking [{ v := .iface 125 (.agg #[.int .i64 row]), recovered := false }]) w fun e u' w' =>
      e = .returned (.tuple #[]) ∧ u' = .panicking [{ v := .iface 125 (.agg #[.int .i64 row]), recovered := true }] ∧ w' = w.setCell p (.int .i64 row) := by
  refine callsD_of_wpS Tryz.func74 rfl fun c₀ cs hu => ?_
  apply wpS_seq
  apply wpS_region
  simp [wpOpsS, go_sem, recoverD, hu, Tryz.ntmps74, Exit.thenS]
  refine wpS_of_wp ?_
  have hta := assert_refusal (.agg #[.int .i64 row])
  have hfl := field_refusal row
  go_wp2
  simp_all [bodyPostS, results, Tryz.results74]
theorem catch_idle (p : Addr) (w : World) :
    CallsD Tryz.prog 74 #[.pointer (some p)] .returning w fun e u' w' => e = .returned (.tuple #[]) ∧ u' = .returning ∧ w' = w := by
  refine callsD_of_wpS Tryz.func74 rfl fun c₀ cs hu => ?_
  apply wpS_seq
  apply wpS_region
  simp [wpOpsS, go_sem, recoverD, hu, Tryz.ntmps74, Exit.thenS]
  refine wpS_of_wp ?_
  go_wp2
  cases c₀
  simp_all [bodyPostS, results, Tryz.results74]

theorem line_form (w0 : World) (b : Nat) (s : Bs) (xs : List Bs) (r : Bs) (w : World) (hR : Rd w0 b s 1 w) (hL : LaidR w0) (hs : s.length ≤ 4000) (hxs : xs.length ≤ 4000) (hLf : Left s nilL 0 xs r) :
    Calls Tryz.prog 75 #[.pointer (some ⟨b, 0, none⟩)] w fun e w' => (∃ n' : Nat, goM nilL 0 xs r = .inr (n' + 1) ∧ Quit b ((n' : Int) + 1) w e w') ∨ ∃ tr gap L at_ ct aT cT, goM nilL 0 xs r = .inl ⟨tr, gap, L.map Prod.fst⟩ ∧ e = .returned (.agg #[.slice at_ tr.length ct, .int .i64 gap, .slice aT L.length cT]) ∧ LOwn w.heap.size w' tr L (.slice at_ tr.length ct) (.slice aT L.length cT) ∧ tr.length ≤ 39 ∧ L.length ≤ 5000 ∧ (∀ x ∈ L, x.1.legs.length ≤ 5000) ∧ Mid b (b + 1) w w' := by
  refine (line_any w0 b s xs r w hR hL hs hxs hLf).mono ?_
  rintro e w' (h | ⟨tr, gap, L, vt, vT, hg, he, hown, hl1, hl2, hl3, hM⟩)
  · exact Or.inl h
  · obtain ⟨at_, ct, rfl, _⟩ := ownInts hown.ints
    obtain ⟨aT, cT, rfl, _⟩ := hown.trs.trains (fun x hx => by have := hl3 x hx; unfold maxLen; omega)
    exact Or.inr ⟨tr, gap, L, at_, ct, aT, cT, hg, he, hown, hl1, hl2, hl3, hM⟩
/-- what is read of a text, in the world behind the call -/
def ReadPost (s : Bs) (w : World) (e : Ending) (w' : World) : Prop :=
  (∃ n' : Nat, goM nilL 0 (cutN s).1 (cutN s).2 = .inr (n' + 1) ∧ e = .returned (.tuple #[.agg #[.slice none 0 0, .int .i64 0, .slice none 0 0], .int .i64 ((n' : Int) + 1)]) ∧ Below w.heap.size w w') ∨
    ∃ tr gap L at_ ct aT cT, goM nilL 0 (cutN s).1 (cutN s).2 = .inl ⟨tr, gap, L.map Prod.fst⟩ ∧ e = .returned (.tuple #[.agg #[.slice at_ tr.length ct, .int .i64 gap, .slice aT L.length cT], .int .i64 0]) ∧ LOwn w.heap.size w' tr L (.slice at_ tr.length ct) (.slice aT L.length cT) ∧ tr.length ≤ 39 ∧ L.length ≤ 5000 ∧ (∀ x ∈ L, x.1.legs.length ≤ 5000) ∧ Below w.heap.size w w'
set_option maxRecDepth 20000 in
set_option maxHeartbeats 4000000 in
theorem read_any (s : Bs) (w : World) (hL : LaidR w) (hs : s.length ≤ 4000) : Calls Tryz.prog 45 #[.string (ba s)] w (ReadPost s w) := by
  have hmf : ∀ (fn : Fn) (first cap : Array Value) (w : World), (Instr.makeFunc fn first cap).run Tryz.prog w = .ok (.func fn first cap) w := fun _ _ _ _ => rfl
  obtain ⟨h1, h2, h3⟩ := cutN_all s
  have hul := unl_length (cutN s).1 (cutN s).2
  rw [h1] at hul
  have hLf : Left s nilL 0 (cutN s).1 (cutN s).2 := ⟨h1.symm, h2, h3⟩
  have hA := b3 w (.cells #[.slice none 0 0, .int .i64 0, .slice none 0 0] 26) (.cells #[.int .i64 0] 3) (.cells #[.string (ba s), .int .i64 1] 123)
  have hR : Rd w (w.heap.size + 2) s 1 (((w.alloc (.cells #[.slice none 0 0, .int .i64 0, .slice none 0 0] 26)).alloc (.cells #[.int .i64 0] 3)).alloc (.cells #[.string (ba s), .int .i64 1] 123)) := by
    have hX : ((w.alloc (.cells #[.slice none 0 0, .int .i64 0, .slice none 0 0] 26)).alloc (.cells #[.int .i64 0] 3)).heap.size = w.heap.size + 2 := by simp
    have hn := new2 ((w.alloc (.cells #[.slice none 0 0, .int .i64 0, .slice none 0 0] 26)).alloc (.cells #[.int .i64 0] 3)) (.string (ba s)) (.int .i64 1) 123
    have hr := Room.lit ((w.alloc (.cells #[.slice none 0 0, .int .i64 0, .slice none 0 0] 26)).alloc (.cells #[.int .i64 0] 3)) #[.string (ba s), .int .i64 1] 123 2 (by simp)
    rw [hX] at hn hr
    exact ⟨hA, by omega, hn.1, hn.2, (hr 0 (by omega)).choose_spec.2, (hr 1 (by omega)).choose_spec.2⟩
  have hln := line_form w (w.heap.size + 2) s (cutN s).1 (cutN s).2 _ hR hL hs (by omega) hLf
  have p0 : (((w.alloc (.cells #[.slice none 0 0, .int .i64 0, .slice none 0 0] 26)).alloc (.cells #[.int .i64 0] 3)).alloc (.cells #[.string (ba s), .int .i64 1] 123)).cell? ⟨w.heap.size, 0, none⟩ = some (.slice none 0 0) := by simp [go_sem]
  have p1 : (((w.alloc (.cells #[.slice none 0 0, .int .i64 0, .slice none 0 0] 26)).alloc (.cells #[.int .i64 0] 3)).alloc (.cells #[.string (ba s), .int .i64 1] 123)).cell? ⟨w.heap.size, 1, none⟩ = some (.int .i64 0) := by simp [go_sem]
  have p2 : (((w.alloc (.cells #[.slice none 0 0, .int .i64 0, .slice none 0 0] 26)).alloc (.cells #[.int .i64 0] 3)).alloc (.cells #[.string (ba s), .int .i64 1] 123)).cell? ⟨w.heap.size, 2, none⟩ = some (.slice none 0 0) := by simp [go_sem]
  have p3 : (((w.alloc (.cells #[.slice none 0 0, .int .i64 0, .slice none 0 0] 26)).alloc (.cells #[.int .i64 0] 3)).alloc (.cells #[.string (ba s), .int .i64 1] 123)).cell? ⟨w.heap.size + 1, 0, none⟩ = some (.int .i64 0) := by simp [go_sem]
  have z0 : (((w.alloc (.cells #[.slice none 0 0, .int .i64 0, .slice none 0 0] 26)).alloc (.cells #[.int .i64 0] 3)).alloc (.cells #[.string (ba s), .int .i64 1] 123)).frozen? ⟨w.heap.size, 0, none⟩ = false := by simp [go_sem]
  have z1 : (((w.alloc (.cells #[.slice none 0 0, .int .i64 0, .slice none 0 0] 26)).alloc (.cells #[.int .i64 0] 3)).alloc (.cells #[.string (ba s), .int .i64 1] 123)).frozen? ⟨w.heap.size, 1, none⟩ = false := by simp [go_sem]
  have z2 : (((w.alloc (.cells #[.slice none 0 0, .int .i64 0, .slice none 0 0] 26)).alloc (.cells #[.int .i64 0] 3)).alloc (.cells #[.string (ba s), .int .i64 1] 123)).frozen? ⟨w.heap.size, 2, none⟩ = false := by simp [go_sem]
  have z3 : (((w.alloc (.cells #[.slice none 0 0, .int .i64 0, .slice none 0 0] 26)).alloc (.cells #[.int .i64 0] 3)).alloc (.cells #[.string (ba s), .int .i64 1] 123)).frozen? ⟨w.heap.size + 1, 0, none⟩ = false := by simp [go_sem]
  go_enter_defers Tryz.func45, Tryz.ntmps45
  go_wp2_with (go_at_call 75; refine hln.mono ?_; rintro e w2 (⟨n', hg, rfl, hM⟩ | ⟨tr, gap, L, at_, ct, aT, cT, hg, rfl, hown, hl1, hl2, hl3, hM⟩) <;> (have a0 := hM.cellBelow (by omega) p0; have a1 := hM.cellBelow (by omega) p1; have a2 := hM.cellBelow (by omega) p2; have a3 := hM.cellBelow (by omega) p3; have f0 := (World.frozen?_of_block (w' := w2) (a := ⟨w.heap.size, 0, none⟩) (hM.below.block _ (by show w.heap.size < w.heap.size + 2; omega))).trans z0; have f1 := (World.frozen?_of_block (w' := w2) (a := ⟨w.heap.size, 1, none⟩) (hM.below.block _ (by show w.heap.size < w.heap.size + 2; omega))).trans z1; have f2 := (World.frozen?_of_block (w' := w2) (a := ⟨w.heap.size, 2, none⟩) (hM.below.block _ (by show w.heap.size < w.heap.size + 2; omega))).trans z2; have f3 := (World.frozen?_of_block (w' := w2) (a := ⟨w.heap.size + 1, 0, none⟩) (hM.below.block _ (by show w.heap.size + 1 < w.heap.size + 2; omega))).trans z3; have hBw : Below w.heap.size w w2 := (hA.trans (hM.below.mono (by omega)))))
  · refine leaves_cons (f := 74) (args := #[.pointer (some ⟨w.heap.size + 1, 0, none⟩)]) (by simp) (by simp [go_sem]) ?_
    refine (catch_panicking ⟨w.heap.size + 1, 0, none⟩ 0 ((n' : Int) + 1) _ a3 f3).mono ?_
    rintro e u' w'' ⟨rfl, rfl, rfl⟩
    simp [Leaves, settle, results, Tryz.results45, go_sem, a0, a1, a2, a3]
    exact Or.inl ⟨n', hg, rfl, hBw.setCell (by show w.heap.size ≤ w.heap.size + 1; omega) _⟩
  · refine leaves_cons (f := 74) (args := #[.pointer (some ⟨w.heap.size + 1, 0, none⟩)]) (by simp) (by simp [go_sem]) ?_
    refine (catch_idle ⟨w.heap.size + 1, 0, none⟩ _).mono ?_
    rintro e u' w'' ⟨rfl, rfl, rfl⟩
    simp [Leaves, settle, results, Tryz.results45, go_sem, a0, a1, a2, a3]
    refine Or.inr ⟨tr, gap, L, at_, ct, aT, cT, hg, rfl, ?_, hl1, hl2, hl3, ?_⟩
    · have hsX : (((w.alloc (.cells #[.slice none 0 0, .int .i64 0, .slice none 0 0] 26)).alloc (.cells #[.int .i64 0] 3)).alloc (.cells #[.string (ba s), .int .i64 1] 123)).heap.size = w.heap.size + 3 := by simp
      rw [hsX] at hown
      exact ((((hown.set _ (by show w.heap.size < w.heap.size + 3; omega) _).set _ (by show w.heap.size < w.heap.size + 3; omega) _).set _ (by show w.heap.size < w.heap.size + 3; omega) _).set _ (by show w.heap.size + 1 < w.heap.size + 3; omega) _).low (by omega)
    · exact (((hBw.setCell (by show w.heap.size ≤ w.heap.size; omega) _).setCell (by show w.heap.size ≤ w.heap.size; omega) _).setCell (by show w.heap.size ≤ w.heap.size; omega) _).setCell (by show w.heap.size ≤ w.heap.size + 1; omega) _
end Go.Proofs.YtnjaegeapcijpaaGreatDoor
