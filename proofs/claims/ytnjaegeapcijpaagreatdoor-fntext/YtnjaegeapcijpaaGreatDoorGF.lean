/-
  The model's search: a record of what is placed, copied.
  The plan of an order, step by step, as plain data.
  The model's record of what is placed, made anew.
  A plan of the call's own: its rows, no two in one block.
-/
import Derived.Test.YtnjaegeapcijpaaGreatDoorGE
import Derived.Maps.AppendAt
import Derived.Laws.AppendOwnNone
import Derived.Test.YtnjaegeapcijpaaGreatDoorPlainQ
import Derived.Test.YtnjaegeapcijpaaGreatDoorPlainH
import Derived.Test.YtnjaegeapcijpaaGreatDoorSpecU
namespace Go.Proofs.YtnjaegeapcijpaaGreatDoor
open Go.RowKit

/-- a row that is owned, appended to another one that is owned: the run -/
theorem run_append_rows {P : Program} (w : World) (base base' : Nat) (t ty e : TypeId) (i : TypeInfo) (z : Value) (size bytes : Nat) (ht : P.underlying t = some (.slice e)) (hi : P.info? e = some i) (hz : i.zero = some z)
    (hsize : i.size = size) (hby : i.bytes = bytes) (hzs : z.cells.size = size) (hsz : 0 < size)
    (v : Value) (n : Nat) (xs : List Value) (hown : w.ownsRow base e size v n xs)
    (v2 : Value) (m : Nat) (news : List Value) (hown2 : w.ownsRow base' e size v2 m news) (h1 : ∀ u ∈ news, u.oneCell' = true)
    (hbound : n + m ≤ maxLen) (hbytes : (n + m) * bytes ≤ 140737488355328) (hbase : base ≤ w.heap.size) :
    ∃ v' w', (Builtin.append_ #[t, t] ty #[v, v2]).run P w = .ok v' w' ∧ w'.ownsRow base e size v' (n + m) (xs ++ news) ∧ w.grownBy w' v.ownBlock ∧ (v'.ownBlock = v.ownBlock ∨ v'.ownBlock = some w.heap.size) := by
  rcases hown2.2 with ⟨rfl, rfl⟩ | ⟨g, cap, cur, rfl, hb, hgg, _⟩
  · refine ⟨v, w, run_append_owned_none (P := P) (w := w) base t ty e i size ht hi v n xs hown, ?_, ⟨rfl, rfl, rfl, Nat.le_refl _, fun _ _ _ => rfl⟩, Or.inl rfl⟩
    have : news = [] := List.eq_nil_of_length_eq_zero (by rw [hown2.1]; omega)
    rw [this, List.append_nil]
    exact hown
  · obtain ⟨v', w', h1, h2, h3, _, h5⟩ := run_append_own_at (P := P) w base t ty e i z size bytes ht hi hz hsize hby hzs hsz v n xs hown ⟨g, 0, none⟩ m cap news hown2.1 (hown2.cells (g := g) rfl) h1 hbound hbytes hbase
    exact ⟨v', w', h1, h2, h3, h5⟩
theorem rowCells_one (r : RowD) : ∀ u ∈ rowCells r, u.oneCell' = true := by
  intro u hu
  obtain ⟨n, _, rfl⟩ := List.mem_map.1 hu
  rfl
/-- a copy in the making: its box at block q, j rows of it -/
structure CopI (w wr : World) (q : Nat) (a : Option Addr) (len cap : Nat) (gap : Int) (a' : Option Addr) (np cap' : Nat) (P : Nat → RowD) (last : Int) (j : Nat) (vS : Value) (v : Nat → Value) : Prop where
  c0 : wr.cell? ⟨q, 0, none⟩ = some (.slice a len cap)
  c1 : wr.cell? ⟨q, 1, none⟩ = some (.int .i64 gap)
  c2 : wr.cell? ⟨q, 2, none⟩ = some (.slice a' np cap')
  c3 : wr.cell? ⟨q, 3, none⟩ = some vS
  c4 : wr.cell? ⟨q, 4, none⟩ = some (.int .i64 last)
  z3 : wr.frozen? ⟨q, 3, none⟩ = false
  z4 : wr.frozen? ⟨q, 4, none⟩ = false
  own : wr.ownsRow (q + 1) 23 1 vS j ((List.range j).map v)
  rows : ∀ k, k < j → wr.ownsRow (q + 1) 3 1 (v k) (P k).n (rowCells (P k))
  off : ∀ k, k < j → ∀ x, (v k).ownBlock = some x → vS.ownBlock ≠ some x
  apart : ∀ k m, k < j → m < j → k ≠ m → Apart (v k) (v m)
  below : Below w.heap.size w wr
theorem CopI.step {w wr W1 W2 : World} {q : Nat} {a : Option Addr} {len cap : Nat} {gap : Int} {a' : Option Addr} {np cap' : Nat} {P : Nat → RowD} {last : Int} {j : Nat} {vS vN v' : Value} {v : Nat → Value} {o : Obj}
    (h : CopI w wr q a len cap gap a' np cap' P last j vS v) (hq : w.heap.size ≤ q) (hB1 : Below wr.heap.size wr W1) (hrow : W1.ownsRow (q + 1) 3 1 vN (P j).n (rowCells (P j))) (hnew : ∀ x, vN.ownBlock = some x → wr.heap.size ≤ x)
    (ho : W2.ownsRow (q + 1) 23 1 v' (j + 1) ((List.range j).map v ++ [vN])) (hg : (W1.alloc o).grownBy W2 vS.ownBlock) (hloc : v'.ownBlock = vS.ownBlock ∨ v'.ownBlock = some (W1.alloc o).heap.size) :
    CopI w (W2.setCell ⟨q, 3, none⟩ v') q a len cap gap a' np cap' P last (j + 1) v' (fun k => if k = j then vN else v k) ∧ W2.cell? ⟨q, 3, none⟩ = some vS ∧ W2.frozen? ⟨q, 3, none⟩ = false := by
  have hB := Below.join hB1 (Nat.le_refl _) (b1 W1 o)
  have hs1 := hB1.size
  have lq : q < wr.heap.size := ltCell h.c0
  have hsz : (W1.alloc o).heap.size = W1.heap.size + 1 := World.size_alloc ..
  have hkeep : ∀ x, x < W1.heap.size + 1 → vS.ownBlock ≠ some x → W2.heap[x]? = (W1.alloc o).heap[x]? := fun x hx hn => hg.block x (by omega) (fun e => hn e.symm)
  have hqS : vS.ownBlock ≠ some q := fun e => by have := (h.own.lt q e).1; omega
  have hk : W2.heap[q]? = (W1.alloc o).heap[q]? := hkeep q (by omega) hqS
  have cc : ∀ p u, wr.cell? ⟨q, p, none⟩ = some u → W2.cell? ⟨q, p, none⟩ = some u := fun p u hu => (World.cell?_of_block (w := W1.alloc o) (w' := W2) (a := ⟨q, p, none⟩) hk).trans (cellLater hB hu)
  have zz : ∀ p u, wr.cell? ⟨q, p, none⟩ = some u → wr.frozen? ⟨q, p, none⟩ = false → W2.frozen? ⟨q, p, none⟩ = false := fun p u hu hz => (World.frozen?_of_block (w := W1.alloc o) (w' := W2) (a := ⟨q, p, none⟩) hk).trans ((hB.frozen (ltCell hu)).trans hz)
  have hold : ∀ k, k < j → ∀ x, (v k).ownBlock = some x → q + 1 ≤ x ∧ x < wr.heap.size := fun k hk x hx => (h.rows k hk).lt x hx
  have hnl : ∀ x, vN.ownBlock = some x → q + 1 ≤ x ∧ x < W1.heap.size := fun x hx => hrow.lt x hx
  have hvS : ∀ x, vS.ownBlock = some x → x < wr.heap.size := fun x hx => (h.own.lt x hx).2
  have hv' : ∀ x, v'.ownBlock = some x → vS.ownBlock = some x ∨ x = W1.heap.size + 1 := fun x hx => by
    rcases hloc with e | e
    · exact Or.inl (e.symm.trans hx)
    · rw [e, hsz] at hx; cases hx; exact Or.inr rfl
  have hmap : (List.range (j + 1)).map (fun k => if k = j then vN else v k) = (List.range j).map v ++ [vN] := by
    rw [List.range_succ, List.map_append]
    congr 1
    · apply List.map_congr_left
      intro k hk
      have : k < j := List.mem_range.1 hk
      rw [if_neg (by omega)]
    · simp
  refine ⟨⟨(cell_set_ne (by decide)).trans (cc 0 _ h.c0), (cell_set_ne (by decide)).trans (cc 1 _ h.c1), (cell_set_ne (by decide)).trans (cc 2 _ h.c2), World.cell?_setCell_same _ _ _ (cc 3 _ h.c3), (cell_set_ne (by decide)).trans (cc 4 _ h.c4), by rw [World.frozen?_setCell]; exact zz 3 _ h.c3 h.z3, by rw [World.frozen?_setCell]; exact zz 4 _ h.c4 h.z4, ?_, fun k hk => ?_, fun k hk x hx e => ?_, fun k m hk hm hne => ?_, ?_⟩, cc 3 _ h.c3, zz 3 _ h.c3 h.z3⟩
  · rw [hmap]; exact ownsRow_setCell_below ho (Nat.lt_succ_self _) _
  · refine ownsRow_setCell_below ?_ (Nat.lt_succ_self _) _
    by_cases e : k = j
    · subst e
      rw [if_pos rfl]
      exact ownsRow_same (ownsRow_later hrow (b1 W1 o)) (fun x hx => hkeep x (by have := hnl x hx; omega) (fun e2 => by have := hvS x e2; have := hnew x hx; omega))
    · rw [if_neg e]
      exact ownsRow_same (ownsRow_later (h.rows k (by omega)) hB) (fun x hx => hkeep x (by have := hold k (by omega) x hx; omega) (h.off k (by omega) x hx))
  · rcases hv' x e with e2 | e2
    · by_cases ek : k = j
      · rw [if_pos ek] at hx; have := hnew x hx; have := hvS x e2; omega
      · rw [if_neg ek] at hx; exact h.off k (by omega) x hx e2
    · by_cases ek : k = j
      · rw [if_pos ek] at hx; have := hnl x hx; omega
      · rw [if_neg ek] at hx; have := hold k (by omega) x hx; omega
  · have hap : ∀ p, p < j → ∀ x, (v p).ownBlock = some x → vN.ownBlock ≠ some x := fun p hp x hx e => by have := hold p hp x hx; have := hnew x e; omega
    by_cases ek : k = j
    · rw [if_pos ek, if_neg (by omega)]
      cases e : vN.ownBlock with
      | none => exact Or.inl e
      | some x => exact Or.inr (fun e2 => hap m (by omega) x (e2.symm.trans e) e)
    · rw [if_neg ek]
      by_cases em : m = j
      · rw [if_pos em]
        cases e : (v k).ownBlock with
        | none => exact Or.inl e
        | some x => exact Or.inr (fun e2 => hap k (by omega) x e (e2.symm.trans e))
      · rw [if_neg em]; exact h.apart k m (by omega) (by omega) hne
  · exact ((Below.join h.below (Nat.le_refl _) hB).grown hg (by have := h.below.size; omega) (fun x hx => by have := (h.own.lt x hx).1; omega)).setCell (p := ⟨q, 3, none⟩) hq _
set_option maxRecDepth 20000 in
set_option maxHeartbeats 8000000 in
theorem copy_any (B0 b gR : Nat) (a : Option Addr) (len cap : Nat) (gap : Int) (a' : Option Addr) (np cap' : Nat) (c : Option Addr) (nc : Nat) (v : Nat → Value) (P : Nat → RowD) (last : Int) (w : World) (hnp : np ≤ 5) (hn : ∀ j, j < np → (P j).n ≤ 10) (hL : LP B0 w b gR a len cap gap a' np cap' c nc v P last) :
    Calls Tryz.prog 80 #[.pointer (some ⟨b, 0, none⟩)] w fun e w' => (∃ gR' c' nc' v', e = .returned (.pointer (some ⟨w.heap.size, 0, none⟩)) ∧ LP w.heap.size w' w.heap.size gR' a len cap gap a' np cap' c' nc' v' P last) ∧ Below w.heap.size w w' := by
  have y0 := hL.l2.c0
  have y1 := hL.l2.c1
  have y2 := hL.l2.c2
  have y3 := hL.l2.c3
  have y4 := hL.l2.c4
  obtain ⟨i0, ii, iz0, iz1, iz2⟩ := info_parts Tryz.infoInt
  obtain ⟨k0, ki, kz0, kz1, kz2⟩ := info_parts Tryz.infoRow
  go_enter Tryz.func80, Tryz.ntmps80
  go_wp2
  refine wp_region_held_drew (S := fun w' => w'.cell? ⟨b, 0, none⟩ = some (.slice a len cap) ∧ w'.cell? ⟨b, 1, none⟩ = some (.int .i64 gap) ∧ w'.cell? ⟨b, 2, none⟩ = some (.slice a' np cap') ∧ w'.cell? ⟨b, 4, none⟩ = some (.int .i64 last)) (by kernel_rfl) ⟨y0, y1, y2, y4⟩ (fun hHeld => ?_)
  refine wpAnyH_take (i := 0) (oi := { dst := some 6, op := Go.Op.move (Go.Operand.tmp 0), type := 100, pos := "l2_plan.go:147", after := #[], guard := none }) (v := ?vv1_0) rfl (by kernel_rfl) (by kernel_rfl) (by kernel_rfl) (fun _ _ _ h => h) (Or.inl ⟨by rfl, ?hy1_0⟩) (by assumption) ?rest1_0
  case hy1_0 =>
    intro w hSw
    (try dsimp only at hSw)
    go_simp
    (try with_reducible rfl)
  simp only [Act.put, List.setIfInBounds_toArray, List.set_cons_zero, List.set_cons_succ]
  refine wpAnyH_take (i := 1) (oi := { dst := some 7, op := Go.Op.nilCheck (Go.Operand.tmp 6), type := 0, pos := "l2_plan.go:147", after := #[{ on := 0, ground := Go.Ground.data }], guard := none }) (v := ?vv2_1) rfl (by kernel_rfl) (by kernel_rfl) (by kernel_rfl) (fun _ _ _ h => h) (Or.inl ⟨by rfl, ?hy2_1⟩) (by assumption) ?rest2_1
  case hy2_1 =>
    intro w hSw
    (try dsimp only at hSw)
    go_simp
    (try with_reducible rfl)
  simp only [Act.put, List.setIfInBounds_toArray, List.set_cons_zero, List.set_cons_succ]
  refine wpAnyH_take (i := 2) (oi := { dst := some 8, op := Go.Op.fieldAddr 137 (Go.Operand.tmp 7) 0, type := 0, pos := "l2_plan.go:147", after := #[{ on := 1, ground := Go.Ground.data }], guard := none }) (v := ?vv3_2) rfl (by kernel_rfl) (by kernel_rfl) (by kernel_rfl) (fun _ _ _ h => h) (Or.inl ⟨by rfl, ?hy3_2⟩) (by assumption) ?rest3_2
  case hy3_2 =>
    intro w hSw
    (try dsimp only at hSw)
    go_simp
    (try with_reducible rfl)
  simp only [Act.put, List.setIfInBounds_toArray, List.set_cons_zero, List.set_cons_succ]
  refine wpAnyH_take (i := 3) (oi := { dst := some 9, op := Go.Op.load 26 (Go.Operand.tmp 8), type := 26, pos := "l2_plan.go:147", after := #[{ on := 2, ground := Go.Ground.data }], guard := none }) (v := ?vv4_3) rfl (by kernel_rfl) (by kernel_rfl) (by kernel_rfl) (fun _ _ _ h => h) (Or.inl ⟨by rfl, ?hy4_3⟩) (by assumption) ?rest4_3
  case hy4_3 =>
    intro w hSw
    (try dsimp only at hSw)
    go_simp
    (try with_reducible rfl)
  simp only [Act.put, List.setIfInBounds_toArray, List.set_cons_zero, List.set_cons_succ]
  refine wpAnyH_take (i := 4) (oi := { dst := some 10, op := Go.Op.move (Go.Operand.tmp 0), type := 100, pos := "l2_plan.go:147", after := #[], guard := none }) (v := ?vv5_4) rfl (by kernel_rfl) (by kernel_rfl) (by kernel_rfl) (fun _ _ _ h => h) (Or.inl ⟨by rfl, ?hy5_4⟩) (by assumption) ?rest5_4
  case hy5_4 =>
    intro w hSw
    (try dsimp only at hSw)
    go_simp
    (try with_reducible rfl)
  simp only [Act.put, List.setIfInBounds_toArray, List.set_cons_zero, List.set_cons_succ]
  refine wpAnyH_take (i := 5) (oi := { dst := some 11, op := Go.Op.nilCheck (Go.Operand.tmp 10), type := 0, pos := "l2_plan.go:147", after := #[{ on := 4, ground := Go.Ground.data }], guard := none }) (v := ?vv6_5) rfl (by kernel_rfl) (by kernel_rfl) (by kernel_rfl) (fun _ _ _ h => h) (Or.inl ⟨by rfl, ?hy6_5⟩) (by assumption) ?rest6_5
  case hy6_5 =>
    intro w hSw
    (try dsimp only at hSw)
    go_simp
    (try with_reducible rfl)
  simp only [Act.put, List.setIfInBounds_toArray, List.set_cons_zero, List.set_cons_succ]
  refine wpAnyH_take (i := 6) (oi := { dst := some 12, op := Go.Op.fieldAddr 137 (Go.Operand.tmp 11) 2, type := 0, pos := "l2_plan.go:147", after := #[{ on := 5, ground := Go.Ground.data }], guard := none }) (v := ?vv7_6) rfl (by kernel_rfl) (by kernel_rfl) (by kernel_rfl) (fun _ _ _ h => h) (Or.inl ⟨by rfl, ?hy7_6⟩) (by assumption) ?rest7_6
  case hy7_6 =>
    intro w hSw
    (try dsimp only at hSw)
    go_simp
    (try with_reducible rfl)
  simp only [Act.put, List.setIfInBounds_toArray, List.set_cons_zero, List.set_cons_succ]
  refine wpAnyH_take (i := 7) (oi := { dst := some 13, op := Go.Op.load 3 (Go.Operand.tmp 12), type := 3, pos := "l2_plan.go:147", after := #[{ on := 6, ground := Go.Ground.data }], guard := none }) (v := ?vv8_7) rfl (by kernel_rfl) (by kernel_rfl) (by kernel_rfl) (fun _ _ _ h => h) (Or.inl ⟨by rfl, ?hy8_7⟩) (by assumption) ?rest8_7
  case hy8_7 =>
    intro w hSw
    (try dsimp only at hSw)
    go_simp
    (try with_reducible rfl)
  simp only [Act.put, List.setIfInBounds_toArray, List.set_cons_zero, List.set_cons_succ]
  refine wpAnyH_take (i := 8) (oi := { dst := some 14, op := Go.Op.build 137 #[(0, Go.Operand.tmp 9), (2, Go.Operand.tmp 13)], type := 137, pos := "l2_plan.go:147", after := #[{ on := 3, ground := Go.Ground.data }, { on := 7, ground := Go.Ground.data }], guard := none }) (v := ?vv9_8) rfl (by kernel_rfl) (by kernel_rfl) (by kernel_rfl) (fun _ _ _ h => h) (Or.inl ⟨by rfl, ?hy9_8⟩) (by assumption) ?rest9_8
  case hy9_8 =>
    intro w hSw
    (try dsimp only at hSw)
    go_simp
    (try with_reducible rfl)
  simp only [Act.put, List.setIfInBounds_toArray, List.set_cons_zero, List.set_cons_succ]
  refine wpAnyH_ready (rs := [9]) (by kernel_rfl) (by simp) ?_
  refine AllReadyH.cons (o := { dst := some 15, op := Go.Op.box 137 (Go.Operand.tmp 14), type := 100, pos := "l2_plan.go:147", after := #[{ on := 8, ground := Go.Ground.data }], guard := none }) rfl (fun K hK => ?_) AllReadyH.nil
  go_simp
  refine hK.out _ _ ⟨cellLater (b1 _ _).drew y0, cellLater (b1 _ _).drew y1, cellLater (b1 _ _).drew y2, cellLater (b1 _ _).drew y4⟩ (fun hHeld => ?_)
  clear hK K
  (try simp only [Act.put, List.setIfInBounds_toArray, List.set_cons_zero, List.set_cons_succ])
  refine wpAnyH_ready (rs := [10]) (by kernel_rfl) (by simp) ?_
  refine AllReadyH.cons (o := { dst := some 3, op := Go.Op.assign (Go.Operand.tmp 15), type := 100, pos := "l2_plan.go:147", after := #[{ on := 9, ground := Go.Ground.data }, { on := 0, ground := Go.Ground.phase }, { on := 1, ground := Go.Ground.phase }, { on := 2, ground := Go.Ground.phase }, { on := 3, ground := Go.Ground.phase }, { on := 4, ground := Go.Ground.phase }, { on := 5, ground := Go.Ground.phase }, { on := 6, ground := Go.Ground.phase }, { on := 7, ground := Go.Ground.phase }, { on := 8, ground := Go.Ground.phase }, { on := 9, ground := Go.Ground.phase }], guard := none }) rfl (fun K hK => ?_) AllReadyH.nil
  go_simp
  refine hK.out _ _ ⟨cellLater (b1 _ _).drew y0, cellLater (b1 _ _).drew y1, cellLater (b1 _ _).drew y2, cellLater (b1 _ _).drew y4⟩ (fun hHeld => ?_)
  clear hK K
  (try simp only [Act.put, List.setIfInBounds_toArray, List.set_cons_zero, List.set_cons_succ])
  refine wpAnyH_done (by kernel_rfl) ?_ _
  have hN : Below w.heap.size w (w.alloc (.cells #[.slice a len cap, .int .i64 gap, .slice a' np cap', .slice none 0 0, .int .i64 last] 137)).drew := (b1 _ _).drew
  have hC0 : CopI w (w.alloc (.cells #[.slice a len cap, .int .i64 gap, .slice a' np cap', .slice none 0 0, .int .i64 last] 137)).drew w.heap.size a len cap gap a' np cap' P last 0 (.slice none 0 0) (fun _ => .slice none 0 0) := by
    obtain ⟨m0, m1, m2, m3, m4⟩ := new5s w (.slice a len cap) (.int .i64 gap) (.slice a' np cap') (.slice none 0 0) (.int .i64 last) 137
    refine ⟨m0, m1, m2, m3, m4, ?_, ?_, World.ownsRow_nil _ _ _ _, fun k hk => absurd hk (Nat.not_lt_zero k), fun k hk => absurd hk (Nat.not_lt_zero k), fun k _ hk => absurd hk (Nat.not_lt_zero k), hN⟩
    · show (w.alloc _).frozen? ⟨w.heap.size, 3, none⟩ = false
      rw [World.frozen?_alloc_at _ _ _ _ (by simp)]
    · show (w.alloc _).frozen? ⟨w.heap.size, 4, none⟩ = false
      rw [World.frozen?_alloc_at _ _ _ _ (by simp)]
  obtain ⟨V, hV⟩ : ∃ V, V = (w.alloc (.cells #[.slice a len cap, .int .i64 gap, .slice a' np cap', .slice none 0 0, .int .i64 last] 137)).drew := ⟨_, rfl⟩
  rw [← hV] at hC0 hN ⊢
  clear hV
  obtain ⟨q, hq⟩ : ∃ q, q = w.heap.size := ⟨_, rfl⟩
  rw [← hq] at hC0 ⊢
  have hq' : Hid (q = w.heap.size) := hq
  have hqw : w.heap.size ≤ q := by omega
  clear hq
  have y3V := cellLater hN y3
  go_wp2
  clear y0 y1 y2 y3 y4 y3V
  go_loopw [22] (fun cc wr => ∃ (j : Nat) (vS : Value) (u : Nat → Value), j ≤ np ∧ cc = .int .i64 j ∧ CopI w wr q a len cap gap a' np cap' P last j vS u) (fun cc _ => np - (intOf cc).toNat)
  case atStart => exact ⟨0, _, _, Nat.zero_le _, rfl, hC0⟩
  case round =>
    clear hC0 hN
    obtain ⟨j, vS, u, hj, rfl, hI⟩ := hrel
    by_cases hlt : j < np
    · have hlt' : (j : Int) < (np : Int) := by omega
      have hj0 : (0 : Int) ≤ (j : Int) := by omega
      obtain ⟨rfl, rc, _⟩ := hL.row j hlt
      have rc' := cellLater hI.below rc
      have hvj := hL.own j hlt
      obtain ⟨xa, xc, hxv, _⟩ : ∃ xa xc, v j = .slice xa (P j).n xc ∧ True := by
        rcases hvj.2 with ⟨e, e0⟩ | ⟨g, cp, cur, e, _⟩
        · exact ⟨none, 0, by rw [e, e0], trivial⟩
        · exact ⟨_, cp, e, trivial⟩
      rw [hxv] at rc'
      have hnj := hn j hlt
      have lq : q < wr.heap.size := ltCell hI.c0
      have hWA : Below wr.heap.size wr (wr.alloc (.cells #[] 3)).drew := (b1 wr _).drew
      have hS6 := cellLater hWA hI.c3
      have hE : (wr.alloc (.cells #[] 3)).drew.ownsRow (q + 1) 3 1 (.slice (some ⟨wr.heap.size, 0, none⟩) 0 0) 0 [] := by
        refine ⟨rfl, Or.inr ⟨wr.heap.size, 0, #[], rfl, by omega, ?_, Nat.le_refl _, Nat.zero_le _, rfl, rfl⟩⟩
        show (wr.heap.push _)[wr.heap.size]? = _
        rw [Array.getElem?_push_size]
      have hvA : (wr.alloc (.cells #[] 3)).drew.ownsRow B0 3 1 (.slice xa (P j).n xc) (P j).n (rowCells (P j)) := by rw [← hxv]; exact ownsRow_later hvj (Below.join hI.below (Nat.le_refl _) hWA)
      obtain ⟨vN, W1, hap1, hrow1, hgr1, hloc1⟩ := run_append_rows (P := Tryz.prog) (wr.alloc (.cells #[] 3)).drew (q + 1) B0 23 23 3 i0 _ 1 8 Tryz.underlying23 ii iz0 iz1 iz2 rfl (by decide) (.slice (some ⟨wr.heap.size, 0, none⟩) 0 0) 0 [] hE (.slice xa (P j).n xc) (P j).n (rowCells (P j)) hvA (rowCells_one _) (by unfold maxLen; omega) (by omega) (by show q + 1 ≤ (wr.heap.push _).size; simp; omega)
      rw [Nat.zero_add, List.nil_append] at hrow1
      have hszA : (wr.alloc (.cells #[] 3)).drew.heap.size = wr.heap.size + 1 := World.size_alloc ..
      have hB1 : Below wr.heap.size wr W1 := below_grown hWA hgr1 (by omega) (fun x hx => by simp only [Value.ownBlock, Option.some.injEq] at hx; omega)
      have hnew : ∀ x, vN.ownBlock = some x → wr.heap.size ≤ x := fun x hx => by
        rcases hloc1 with e | e
        · rw [e] at hx; simp only [Value.ownBlock, Option.some.injEq] at hx; omega
        · rw [e, hszA] at hx; simp only [Option.some.injEq] at hx; omega
      obtain ⟨ya, yc, rfl⟩ : ∃ ya yc, vN = .slice ya (P j).n yc := by
        rcases hrow1.2 with ⟨e, e0⟩ | ⟨g, cp, cur, e, _⟩
        · exact ⟨none, 0, by rw [e, e0]⟩
        · exact ⟨_, cp, e⟩
      have hS8 := cellLater hB1 hI.c3
      have hB1A := Below.join hB1 (Nat.le_refl _) (b1 W1 (.cells #[.slice ya (P j).n yc] 23))
      have hS9 := cellLater hB1A hI.c3
      have hs1 := hB1.size
      obtain ⟨v2, W2, hap2, hown2, hgr2, _, hloc2⟩ := run_append_own_at (P := Tryz.prog) (W1.alloc (.cells #[.slice ya (P j).n yc] 23)) (q + 1) 28 28 23 k0 _ 1 24 Tryz.underlying28 ki kz0 kz1 kz2 rfl (by decide) vS j ((List.range j).map u) (ownsRow_later hI.own hB1A) ⟨W1.heap.size, 0, none⟩ 1 1 [.slice ya (P j).n yc] rfl cells1_lie (fun x hx => by simp at hx; subst hx; rfl) (by unfold maxLen; omega) (by omega) (by rw [World.size_alloc]; omega)
      obtain ⟨hst, m3, mz⟩ := hI.step hqw hB1 hrow1 hnew hown2 hgr2 hloc2
      obtain ⟨gn, cn, rfl⟩ := Joins.ownsRow_form hown2 (by omega)
      have hst' : Hid _ := hst
      have hap1' : Hid _ := hap1
      have hap2' : Hid _ := hap2
      have hSd : wr.drew.cell? ⟨q, 3, none⟩ = some vS := hI.c3
      clear hst hap1 hap2 hown2 hgr2 hrow1 hgr1 hE hvA
      go_wp2
      refine wp_region_held_drew (S := fun _ => True) (by kernel_rfl) trivial (fun hHeld => ?_)
      refine wpAnyH_take (i := 0) (oi := { dst := some 26, op := Go.Op.move (Go.Operand.tmp 3), type := 100, pos := "l2_plan.go:149", after := #[], guard := none }) (v := ?vv21_0) rfl (by kernel_rfl) (by kernel_rfl) (by kernel_rfl) (fun _ _ _ h => h) (Or.inl ⟨by rfl, ?hy21_0⟩) (by assumption) ?rest21_0
      case hy21_0 =>
        intro w hSw
        (try dsimp only at hSw)
        go_simp
        (try with_reducible rfl)
      simp only [Act.put, List.setIfInBounds_toArray, List.set_cons_zero, List.set_cons_succ]
      refine wpAnyH_take (i := 1) (oi := { dst := some 27, op := Go.Op.move (Go.Operand.tmp 3), type := 100, pos := "l2_plan.go:149", after := #[], guard := none }) (v := ?vv22_1) rfl (by kernel_rfl) (by kernel_rfl) (by kernel_rfl) (fun _ _ _ h => h) (Or.inl ⟨by rfl, ?hy22_1⟩) (by assumption) ?rest22_1
      case hy22_1 =>
        intro w hSw
        (try dsimp only at hSw)
        go_simp
        (try with_reducible rfl)
      simp only [Act.put, List.setIfInBounds_toArray, List.set_cons_zero, List.set_cons_succ]
      refine wpAnyH_take (i := 2) (oi := { dst := some 28, op := Go.Op.nilCheck (Go.Operand.tmp 27), type := 0, pos := "l2_plan.go:149", after := #[{ on := 1, ground := Go.Ground.data }], guard := none }) (v := ?vv23_2) rfl (by kernel_rfl) (by kernel_rfl) (by kernel_rfl) (fun _ _ _ h => h) (Or.inl ⟨by rfl, ?hy23_2⟩) (by assumption) ?rest23_2
      case hy23_2 =>
        intro w hSw
        (try dsimp only at hSw)
        go_simp
        (try with_reducible rfl)
      simp only [Act.put, List.setIfInBounds_toArray, List.set_cons_zero, List.set_cons_succ]
      refine wpAnyH_take (i := 3) (oi := { dst := some 29, op := Go.Op.fieldAddr 137 (Go.Operand.tmp 28) 1, type := 0, pos := "l2_plan.go:149", after := #[{ on := 2, ground := Go.Ground.data }], guard := none }) (v := ?vv24_3) rfl (by kernel_rfl) (by kernel_rfl) (by kernel_rfl) (fun _ _ _ h => h) (Or.inl ⟨by rfl, ?hy24_3⟩) (by assumption) ?rest24_3
      case hy24_3 =>
        intro w hSw
        (try dsimp only at hSw)
        go_simp
        (try with_reducible rfl)
      simp only [Act.put, List.setIfInBounds_toArray, List.set_cons_zero, List.set_cons_succ]
      refine wpAnyH_take (i := 4) (oi := { dst := some 30, op := Go.Op.fieldAddr 30 (Go.Operand.tmp 29) 0, type := 0, pos := "l2_plan.go:149", after := #[{ on := 3, ground := Go.Ground.data }], guard := none }) (v := ?vv25_4) rfl (by kernel_rfl) (by kernel_rfl) (by kernel_rfl) (fun _ _ _ h => h) (Or.inl ⟨by rfl, ?hy25_4⟩) (by assumption) ?rest25_4
      case hy25_4 =>
        intro w hSw
        (try dsimp only at hSw)
        go_simp
        (try with_reducible rfl)
      simp only [Act.put, List.setIfInBounds_toArray, List.set_cons_zero, List.set_cons_succ]
      refine wpAnyH_take (i := 7) (oi := { dst := some 33, op := Go.Op.move (Go.Operand.tmp 5), type := 23, pos := "l2_plan.go:149", after := #[], guard := none }) (v := ?vv26_7) rfl (by kernel_rfl) (by kernel_rfl) (by kernel_rfl) (fun _ _ _ h => h) (Or.inl ⟨by rfl, ?hy26_7⟩) (by assumption) ?rest26_7
      case hy26_7 =>
        intro w hSw
        (try dsimp only at hSw)
        go_simp
        (try with_reducible rfl)
      simp only [Act.put, List.setIfInBounds_toArray, List.set_cons_zero, List.set_cons_succ]
      refine wpAnyH_ready (rs := [5, 6]) (by kernel_rfl) (by simp) ?_
      refine AllReadyH.cons (o := { dst := some 31, op := Go.Op.load 28 (Go.Operand.tmp 30), type := 28, pos := "l2_plan.go:149", after := #[{ on := 4, ground := Go.Ground.data }], guard := none }) rfl (fun K hK => ?_) (AllReadyH.cons (o := { dst := some 32, op := Go.Op.buildSlice 23 0 #[], type := 23, pos := "l2_plan.go:149", after := #[], guard := none }) rfl (fun K hK => ?_) AllReadyH.nil)
      · go_simp
        refine hK.out _ _ trivial (fun hHeld => ?_)
        clear hK K
        (try simp only [Act.put, List.setIfInBounds_toArray, List.set_cons_zero, List.set_cons_succ])
        refine wpAnyH_ready (rs := [6]) (by kernel_rfl) (by simp) ?_
        refine AllReadyH.cons (o := { dst := some 32, op := Go.Op.buildSlice 23 0 #[], type := 23, pos := "l2_plan.go:149", after := #[], guard := none }) rfl (fun K hK => ?_) AllReadyH.nil
        go_simp
        refine hK.out _ _ trivial (fun hHeld => ?_)
        clear hK K
        (try simp only [Act.put, List.setIfInBounds_toArray, List.set_cons_zero, List.set_cons_succ])
        refine wpAnyH_ready (rs := [8]) (by kernel_rfl) (by simp) ?_
        refine AllReadyH.cons (o := { dst := some 34, op := Go.Op.call { callee := Go.Callee.builtin Go.Builtin.append, args := #[Go.Operand.tmp 32, Go.Operand.tmp 33], argTypes := #[23, 23] }, type := 23, pos := "l2_plan.go:149", after := #[{ on := 6, ground := Go.Ground.data }, { on := 7, ground := Go.Ground.data }], guard := none }) rfl (fun K hK => ?_) AllReadyH.nil
        refine step_append_eq _ (by rfl) _ _ _ (by rfl) _ _ _ _ (by rfl) (by rfl) hap1'.out ?_
        refine hK.out _ _ trivial (fun hHeld => ?_)
        clear hK K
        (try simp only [Act.put, List.setIfInBounds_toArray, List.set_cons_zero, List.set_cons_succ])
        refine wpAnyH_ready (rs := [9]) (by kernel_rfl) (by simp) ?_
        refine AllReadyH.cons (o := { dst := some 35, op := Go.Op.buildSlice 28 1 #[(0, Go.Operand.tmp 34)], type := 28, pos := "l2_plan.go:149", after := #[{ on := 8, ground := Go.Ground.data }], guard := none }) rfl (fun K hK => ?_) AllReadyH.nil
        go_simp
        refine hK.out _ _ trivial (fun hHeld => ?_)
        clear hK K
        (try simp only [Act.put, List.setIfInBounds_toArray, List.set_cons_zero, List.set_cons_succ])
        refine wpAnyH_ready (rs := [10]) (by kernel_rfl) (by simp) ?_
        refine AllReadyH.cons (o := { dst := some 36, op := Go.Op.call { callee := Go.Callee.builtin Go.Builtin.append, args := #[Go.Operand.tmp 31, Go.Operand.tmp 35], argTypes := #[28, 28] }, type := 28, pos := "l2_plan.go:149", after := #[{ on := 5, ground := Go.Ground.data }, { on := 9, ground := Go.Ground.data }, { on := 8, ground := Go.Ground.chain }], guard := none }) rfl (fun K hK => ?_) AllReadyH.nil
        refine step_append_eq _ (by rfl) _ _ _ (by rfl) _ _ _ _ (by rfl) (by rfl) hap2'.out ?_
        refine hK.out _ _ trivial (fun hHeld => ?_)
        clear hK K
        (try simp only [Act.put, List.setIfInBounds_toArray, List.set_cons_zero, List.set_cons_succ])
        refine wpAnyH_take (i := 11) (oi := { dst := some 37, op := Go.Op.nilCheck (Go.Operand.tmp 26), type := 0, pos := "l2_plan.go:149", after := #[{ on := 0, ground := Go.Ground.data }, { on := 0, ground := Go.Ground.phase }, { on := 1, ground := Go.Ground.phase }, { on := 2, ground := Go.Ground.phase }, { on := 3, ground := Go.Ground.phase }, { on := 4, ground := Go.Ground.phase }, { on := 5, ground := Go.Ground.phase }, { on := 6, ground := Go.Ground.phase }, { on := 7, ground := Go.Ground.phase }, { on := 8, ground := Go.Ground.phase }, { on := 9, ground := Go.Ground.phase }, { on := 10, ground := Go.Ground.phase }], guard := none }) (v := ?vv141_11) rfl (by kernel_rfl) (by kernel_rfl) (by kernel_rfl) (fun _ _ _ h => h) (Or.inl ⟨by rfl, ?hy141_11⟩) (by assumption) ?rest141_11
        case hy141_11 =>
          intro w hSw
          (try dsimp only at hSw)
          go_simp
          (try with_reducible rfl)
        simp only [Act.put, List.setIfInBounds_toArray, List.set_cons_zero, List.set_cons_succ]
        refine wpAnyH_take (i := 12) (oi := { dst := some 38, op := Go.Op.fieldAddr 137 (Go.Operand.tmp 37) 1, type := 0, pos := "l2_plan.go:149", after := #[{ on := 11, ground := Go.Ground.data }, { on := 0, ground := Go.Ground.phase }, { on := 1, ground := Go.Ground.phase }, { on := 2, ground := Go.Ground.phase }, { on := 3, ground := Go.Ground.phase }, { on := 4, ground := Go.Ground.phase }, { on := 5, ground := Go.Ground.phase }, { on := 6, ground := Go.Ground.phase }, { on := 7, ground := Go.Ground.phase }, { on := 8, ground := Go.Ground.phase }, { on := 9, ground := Go.Ground.phase }, { on := 10, ground := Go.Ground.phase }], guard := none }) (v := ?vv142_12) rfl (by kernel_rfl) (by kernel_rfl) (by kernel_rfl) (fun _ _ _ h => h) (Or.inl ⟨by rfl, ?hy142_12⟩) (by assumption) ?rest142_12
        case hy142_12 =>
          intro w hSw
          (try dsimp only at hSw)
          go_simp
          (try with_reducible rfl)
        simp only [Act.put, List.setIfInBounds_toArray, List.set_cons_zero, List.set_cons_succ]
        refine wpAnyH_take (i := 13) (oi := { dst := some 39, op := Go.Op.fieldAddr 30 (Go.Operand.tmp 38) 0, type := 0, pos := "l2_plan.go:149", after := #[{ on := 12, ground := Go.Ground.data }, { on := 0, ground := Go.Ground.phase }, { on := 1, ground := Go.Ground.phase }, { on := 2, ground := Go.Ground.phase }, { on := 3, ground := Go.Ground.phase }, { on := 4, ground := Go.Ground.phase }, { on := 5, ground := Go.Ground.phase }, { on := 6, ground := Go.Ground.phase }, { on := 7, ground := Go.Ground.phase }, { on := 8, ground := Go.Ground.phase }, { on := 9, ground := Go.Ground.phase }, { on := 10, ground := Go.Ground.phase }], guard := none }) (v := ?vv143_13) rfl (by kernel_rfl) (by kernel_rfl) (by kernel_rfl) (fun _ _ _ h => h) (Or.inl ⟨by rfl, ?hy143_13⟩) (by assumption) ?rest143_13
        case hy143_13 =>
          intro w hSw
          (try dsimp only at hSw)
          go_simp
          (try with_reducible rfl)
        simp only [Act.put, List.setIfInBounds_toArray, List.set_cons_zero, List.set_cons_succ]
        refine wpAnyH_ready (rs := [14]) (by kernel_rfl) (by simp) ?_
        refine AllReadyH.cons (o := { dst := none, op := Go.Op.store 28 (Go.Operand.tmp 39) (Go.Operand.tmp 36), type := 0, pos := "l2_plan.go:149", after := #[{ on := 13, ground := Go.Ground.data }, { on := 10, ground := Go.Ground.data }, { on := 10, ground := Go.Ground.chain }, { on := 0, ground := Go.Ground.phase }, { on := 1, ground := Go.Ground.phase }, { on := 2, ground := Go.Ground.phase }, { on := 3, ground := Go.Ground.phase }, { on := 4, ground := Go.Ground.phase }, { on := 5, ground := Go.Ground.phase }, { on := 6, ground := Go.Ground.phase }, { on := 7, ground := Go.Ground.phase }, { on := 8, ground := Go.Ground.phase }, { on := 9, ground := Go.Ground.phase }, { on := 10, ground := Go.Ground.phase }], guard := none }) rfl (fun K hK => ?_) AllReadyH.nil
        go_simp
        refine hK.out _ _ trivial (fun hHeld => ?_)
        clear hK K
        (try simp only [Act.put, List.setIfInBounds_toArray, List.set_cons_zero, List.set_cons_succ])
        refine wpAnyH_done (by kernel_rfl) ?_ _
        go_wp2
        go_roundw
        case rel => exact ⟨j + 1, _, _, by omega, rfl, hst'.out⟩
        case measure => simp only [intOf]; omega
      · go_simp
        refine hK.out _ _ trivial (fun hHeld => ?_)
        clear hK K
        (try simp only [Act.put, List.setIfInBounds_toArray, List.set_cons_zero, List.set_cons_succ])
        refine wpAnyH_ready (rs := [5, 8]) (by kernel_rfl) (by simp) ?_
        refine AllReadyH.cons (o := { dst := some 31, op := Go.Op.load 28 (Go.Operand.tmp 30), type := 28, pos := "l2_plan.go:149", after := #[{ on := 4, ground := Go.Ground.data }], guard := none }) rfl (fun K hK => ?_) (AllReadyH.cons (o := { dst := some 34, op := Go.Op.call { callee := Go.Callee.builtin Go.Builtin.append, args := #[Go.Operand.tmp 32, Go.Operand.tmp 33], argTypes := #[23, 23] }, type := 23, pos := "l2_plan.go:149", after := #[{ on := 6, ground := Go.Ground.data }, { on := 7, ground := Go.Ground.data }], guard := none }) rfl (fun K hK => ?_) AllReadyH.nil)
        · go_simp
          refine hK.out _ _ trivial (fun hHeld => ?_)
          clear hK K
          (try simp only [Act.put, List.setIfInBounds_toArray, List.set_cons_zero, List.set_cons_succ])
          refine wpAnyH_ready (rs := [8]) (by kernel_rfl) (by simp) ?_
          refine AllReadyH.cons (o := { dst := some 34, op := Go.Op.call { callee := Go.Callee.builtin Go.Builtin.append, args := #[Go.Operand.tmp 32, Go.Operand.tmp 33], argTypes := #[23, 23] }, type := 23, pos := "l2_plan.go:149", after := #[{ on := 6, ground := Go.Ground.data }, { on := 7, ground := Go.Ground.data }], guard := none }) rfl (fun K hK => ?_) AllReadyH.nil
          refine step_append_eq _ (by rfl) _ _ _ (by rfl) _ _ _ _ (by rfl) (by rfl) hap1'.out ?_
          refine hK.out _ _ trivial (fun hHeld => ?_)
          clear hK K
          (try simp only [Act.put, List.setIfInBounds_toArray, List.set_cons_zero, List.set_cons_succ])
          refine wpAnyH_ready (rs := [9]) (by kernel_rfl) (by simp) ?_
          refine AllReadyH.cons (o := { dst := some 35, op := Go.Op.buildSlice 28 1 #[(0, Go.Operand.tmp 34)], type := 28, pos := "l2_plan.go:149", after := #[{ on := 8, ground := Go.Ground.data }], guard := none }) rfl (fun K hK => ?_) AllReadyH.nil
          go_simp
          refine hK.out _ _ trivial (fun hHeld => ?_)
          clear hK K
          (try simp only [Act.put, List.setIfInBounds_toArray, List.set_cons_zero, List.set_cons_succ])
          refine wpAnyH_ready (rs := [10]) (by kernel_rfl) (by simp) ?_
          refine AllReadyH.cons (o := { dst := some 36, op := Go.Op.call { callee := Go.Callee.builtin Go.Builtin.append, args := #[Go.Operand.tmp 31, Go.Operand.tmp 35], argTypes := #[28, 28] }, type := 28, pos := "l2_plan.go:149", after := #[{ on := 5, ground := Go.Ground.data }, { on := 9, ground := Go.Ground.data }, { on := 8, ground := Go.Ground.chain }], guard := none }) rfl (fun K hK => ?_) AllReadyH.nil
          refine step_append_eq _ (by rfl) _ _ _ (by rfl) _ _ _ _ (by rfl) (by rfl) hap2'.out ?_
          refine hK.out _ _ trivial (fun hHeld => ?_)
          clear hK K
          (try simp only [Act.put, List.setIfInBounds_toArray, List.set_cons_zero, List.set_cons_succ])
          refine wpAnyH_take (i := 11) (oi := { dst := some 37, op := Go.Op.nilCheck (Go.Operand.tmp 26), type := 0, pos := "l2_plan.go:149", after := #[{ on := 0, ground := Go.Ground.data }, { on := 0, ground := Go.Ground.phase }, { on := 1, ground := Go.Ground.phase }, { on := 2, ground := Go.Ground.phase }, { on := 3, ground := Go.Ground.phase }, { on := 4, ground := Go.Ground.phase }, { on := 5, ground := Go.Ground.phase }, { on := 6, ground := Go.Ground.phase }, { on := 7, ground := Go.Ground.phase }, { on := 8, ground := Go.Ground.phase }, { on := 9, ground := Go.Ground.phase }, { on := 10, ground := Go.Ground.phase }], guard := none }) (v := ?vv241_11) rfl (by kernel_rfl) (by kernel_rfl) (by kernel_rfl) (fun _ _ _ h => h) (Or.inl ⟨by rfl, ?hy241_11⟩) (by assumption) ?rest241_11
          case hy241_11 =>
            intro w hSw
            (try dsimp only at hSw)
            go_simp
            (try with_reducible rfl)
          simp only [Act.put, List.setIfInBounds_toArray, List.set_cons_zero, List.set_cons_succ]
          refine wpAnyH_take (i := 12) (oi := { dst := some 38, op := Go.Op.fieldAddr 137 (Go.Operand.tmp 37) 1, type := 0, pos := "l2_plan.go:149", after := #[{ on := 11, ground := Go.Ground.data }, { on := 0, ground := Go.Ground.phase }, { on := 1, ground := Go.Ground.phase }, { on := 2, ground := Go.Ground.phase }, { on := 3, ground := Go.Ground.phase }, { on := 4, ground := Go.Ground.phase }, { on := 5, ground := Go.Ground.phase }, { on := 6, ground := Go.Ground.phase }, { on := 7, ground := Go.Ground.phase }, { on := 8, ground := Go.Ground.phase }, { on := 9, ground := Go.Ground.phase }, { on := 10, ground := Go.Ground.phase }], guard := none }) (v := ?vv242_12) rfl (by kernel_rfl) (by kernel_rfl) (by kernel_rfl) (fun _ _ _ h => h) (Or.inl ⟨by rfl, ?hy242_12⟩) (by assumption) ?rest242_12
          case hy242_12 =>
            intro w hSw
            (try dsimp only at hSw)
            go_simp
            (try with_reducible rfl)
          simp only [Act.put, List.setIfInBounds_toArray, List.set_cons_zero, List.set_cons_succ]
          refine wpAnyH_take (i := 13) (oi := { dst := some 39, op := Go.Op.fieldAddr 30 (Go.Operand.tmp 38) 0, type := 0, pos := "l2_plan.go:149", after := #[{ on := 12, ground := Go.Ground.data }, { on := 0, ground := Go.Ground.phase }, { on := 1, ground := Go.Ground.phase }, { on := 2, ground := Go.Ground.phase }, { on := 3, ground := Go.Ground.phase }, { on := 4, ground := Go.Ground.phase }, { on := 5, ground := Go.Ground.phase }, { on := 6, ground := Go.Ground.phase }, { on := 7, ground := Go.Ground.phase }, { on := 8, ground := Go.Ground.phase }, { on := 9, ground := Go.Ground.phase }, { on := 10, ground := Go.Ground.phase }], guard := none }) (v := ?vv243_13) rfl (by kernel_rfl) (by kernel_rfl) (by kernel_rfl) (fun _ _ _ h => h) (Or.inl ⟨by rfl, ?hy243_13⟩) (by assumption) ?rest243_13
          case hy243_13 =>
            intro w hSw
            (try dsimp only at hSw)
            go_simp
            (try with_reducible rfl)
          simp only [Act.put, List.setIfInBounds_toArray, List.set_cons_zero, List.set_cons_succ]
          refine wpAnyH_ready (rs := [14]) (by kernel_rfl) (by simp) ?_
          refine AllReadyH.cons (o := { dst := none, op := Go.Op.store 28 (Go.Operand.tmp 39) (Go.Operand.tmp 36), type := 0, pos := "l2_plan.go:149", after := #[{ on := 13, ground := Go.Ground.data }, { on := 10, ground := Go.Ground.data }, { on := 10, ground := Go.Ground.chain }, { on := 0, ground := Go.Ground.phase }, { on := 1, ground := Go.Ground.phase }, { on := 2, ground := Go.Ground.phase }, { on := 3, ground := Go.Ground.phase }, { on := 4, ground := Go.Ground.phase }, { on := 5, ground := Go.Ground.phase }, { on := 6, ground := Go.Ground.phase }, { on := 7, ground := Go.Ground.phase }, { on := 8, ground := Go.Ground.phase }, { on := 9, ground := Go.Ground.phase }, { on := 10, ground := Go.Ground.phase }], guard := none }) rfl (fun K hK => ?_) AllReadyH.nil
          go_simp
          refine hK.out _ _ trivial (fun hHeld => ?_)
          clear hK K
          (try simp only [Act.put, List.setIfInBounds_toArray, List.set_cons_zero, List.set_cons_succ])
          refine wpAnyH_done (by kernel_rfl) ?_ _
          go_wp2
          go_roundw
          case rel => exact ⟨j + 1, _, _, by omega, rfl, hst'.out⟩
          case measure => simp only [intOf]; omega
        · refine step_append_eq _ (by rfl) _ _ _ (by rfl) _ _ _ _ (by rfl) (by rfl) hap1'.out ?_
          refine hK.out _ _ trivial (fun hHeld => ?_)
          clear hK K
          (try simp only [Act.put, List.setIfInBounds_toArray, List.set_cons_zero, List.set_cons_succ])
          refine wpAnyH_ready (rs := [5, 9]) (by kernel_rfl) (by simp) ?_
          refine AllReadyH.cons (o := { dst := some 31, op := Go.Op.load 28 (Go.Operand.tmp 30), type := 28, pos := "l2_plan.go:149", after := #[{ on := 4, ground := Go.Ground.data }], guard := none }) rfl (fun K hK => ?_) (AllReadyH.cons (o := { dst := some 35, op := Go.Op.buildSlice 28 1 #[(0, Go.Operand.tmp 34)], type := 28, pos := "l2_plan.go:149", after := #[{ on := 8, ground := Go.Ground.data }], guard := none }) rfl (fun K hK => ?_) AllReadyH.nil)
          · go_simp
            refine hK.out _ _ trivial (fun hHeld => ?_)
            clear hK K
            (try simp only [Act.put, List.setIfInBounds_toArray, List.set_cons_zero, List.set_cons_succ])
            refine wpAnyH_ready (rs := [9]) (by kernel_rfl) (by simp) ?_
            refine AllReadyH.cons (o := { dst := some 35, op := Go.Op.buildSlice 28 1 #[(0, Go.Operand.tmp 34)], type := 28, pos := "l2_plan.go:149", after := #[{ on := 8, ground := Go.Ground.data }], guard := none }) rfl (fun K hK => ?_) AllReadyH.nil
            go_simp
            refine hK.out _ _ trivial (fun hHeld => ?_)
            clear hK K
            (try simp only [Act.put, List.setIfInBounds_toArray, List.set_cons_zero, List.set_cons_succ])
            refine wpAnyH_ready (rs := [10]) (by kernel_rfl) (by simp) ?_
            refine AllReadyH.cons (o := { dst := some 36, op := Go.Op.call { callee := Go.Callee.builtin Go.Builtin.append, args := #[Go.Operand.tmp 31, Go.Operand.tmp 35], argTypes := #[28, 28] }, type := 28, pos := "l2_plan.go:149", after := #[{ on := 5, ground := Go.Ground.data }, { on := 9, ground := Go.Ground.data }, { on := 8, ground := Go.Ground.chain }], guard := none }) rfl (fun K hK => ?_) AllReadyH.nil
            refine step_append_eq _ (by rfl) _ _ _ (by rfl) _ _ _ _ (by rfl) (by rfl) hap2'.out ?_
            refine hK.out _ _ trivial (fun hHeld => ?_)
            clear hK K
            (try simp only [Act.put, List.setIfInBounds_toArray, List.set_cons_zero, List.set_cons_succ])
            refine wpAnyH_take (i := 11) (oi := { dst := some 37, op := Go.Op.nilCheck (Go.Operand.tmp 26), type := 0, pos := "l2_plan.go:149", after := #[{ on := 0, ground := Go.Ground.data }, { on := 0, ground := Go.Ground.phase }, { on := 1, ground := Go.Ground.phase }, { on := 2, ground := Go.Ground.phase }, { on := 3, ground := Go.Ground.phase }, { on := 4, ground := Go.Ground.phase }, { on := 5, ground := Go.Ground.phase }, { on := 6, ground := Go.Ground.phase }, { on := 7, ground := Go.Ground.phase }, { on := 8, ground := Go.Ground.phase }, { on := 9, ground := Go.Ground.phase }, { on := 10, ground := Go.Ground.phase }], guard := none }) (v := ?vv341_11) rfl (by kernel_rfl) (by kernel_rfl) (by kernel_rfl) (fun _ _ _ h => h) (Or.inl ⟨by rfl, ?hy341_11⟩) (by assumption) ?rest341_11
            case hy341_11 =>
              intro w hSw
              (try dsimp only at hSw)
              go_simp
              (try with_reducible rfl)
            simp only [Act.put, List.setIfInBounds_toArray, List.set_cons_zero, List.set_cons_succ]
            refine wpAnyH_take (i := 12) (oi := { dst := some 38, op := Go.Op.fieldAddr 137 (Go.Operand.tmp 37) 1, type := 0, pos := "l2_plan.go:149", after := #[{ on := 11, ground := Go.Ground.data }, { on := 0, ground := Go.Ground.phase }, { on := 1, ground := Go.Ground.phase }, { on := 2, ground := Go.Ground.phase }, { on := 3, ground := Go.Ground.phase }, { on := 4, ground := Go.Ground.phase }, { on := 5, ground := Go.Ground.phase }, { on := 6, ground := Go.Ground.phase }, { on := 7, ground := Go.Ground.phase }, { on := 8, ground := Go.Ground.phase }, { on := 9, ground := Go.Ground.phase }, { on := 10, ground := Go.Ground.phase }], guard := none }) (v := ?vv342_12) rfl (by kernel_rfl) (by kernel_rfl) (by kernel_rfl) (fun _ _ _ h => h) (Or.inl ⟨by rfl, ?hy342_12⟩) (by assumption) ?rest342_12
            case hy342_12 =>
              intro w hSw
              (try dsimp only at hSw)
              go_simp
              (try with_reducible rfl)
            simp only [Act.put, List.setIfInBounds_toArray, List.set_cons_zero, List.set_cons_succ]
            refine wpAnyH_take (i := 13) (oi := { dst := some 39, op := Go.Op.fieldAddr 30 (Go.Operand.tmp 38) 0, type := 0, pos := "l2_plan.go:149", after := #[{ on := 12, ground := Go.Ground.data }, { on := 0, ground := Go.Ground.phase }, { on := 1, ground := Go.Ground.phase }, { on := 2, ground := Go.Ground.phase }, { on := 3, ground := Go.Ground.phase }, { on := 4, ground := Go.Ground.phase }, { on := 5, ground := Go.Ground.phase }, { on := 6, ground := Go.Ground.phase }, { on := 7, ground := Go.Ground.phase }, { on := 8, ground := Go.Ground.phase }, { on := 9, ground := Go.Ground.phase }, { on := 10, ground := Go.Ground.phase }], guard := none }) (v := ?vv343_13) rfl (by kernel_rfl) (by kernel_rfl) (by kernel_rfl) (fun _ _ _ h => h) (Or.inl ⟨by rfl, ?hy343_13⟩) (by assumption) ?rest343_13
            case hy343_13 =>
              intro w hSw
              (try dsimp only at hSw)
              go_simp
              (try with_reducible rfl)
            simp only [Act.put, List.setIfInBounds_toArray, List.set_cons_zero, List.set_cons_succ]
            refine wpAnyH_ready (rs := [14]) (by kernel_rfl) (by simp) ?_
            refine AllReadyH.cons (o := { dst := none, op := Go.Op.store 28 (Go.Operand.tmp 39) (Go.Operand.tmp 36), type := 0, pos := "l2_plan.go:149", after := #[{ on := 13, ground := Go.Ground.data }, { on := 10, ground := Go.Ground.data }, { on := 10, ground := Go.Ground.chain }, { on := 0, ground := Go.Ground.phase }, { on := 1, ground := Go.Ground.phase }, { on := 2, ground := Go.Ground.phase }, { on := 3, ground := Go.Ground.phase }, { on := 4, ground := Go.Ground.phase }, { on := 5, ground := Go.Ground.phase }, { on := 6, ground := Go.Ground.phase }, { on := 7, ground := Go.Ground.phase }, { on := 8, ground := Go.Ground.phase }, { on := 9, ground := Go.Ground.phase }, { on := 10, ground := Go.Ground.phase }], guard := none }) rfl (fun K hK => ?_) AllReadyH.nil
            go_simp
            refine hK.out _ _ trivial (fun hHeld => ?_)
            clear hK K
            (try simp only [Act.put, List.setIfInBounds_toArray, List.set_cons_zero, List.set_cons_succ])
            refine wpAnyH_done (by kernel_rfl) ?_ _
            go_wp2
            go_roundw
            case rel => exact ⟨j + 1, _, _, by omega, rfl, hst'.out⟩
            case measure => simp only [intOf]; omega
          · go_simp
            refine hK.out _ _ trivial (fun hHeld => ?_)
            clear hK K
            (try simp only [Act.put, List.setIfInBounds_toArray, List.set_cons_zero, List.set_cons_succ])
            refine wpAnyH_ready (rs := [5]) (by kernel_rfl) (by simp) ?_
            refine AllReadyH.cons (o := { dst := some 31, op := Go.Op.load 28 (Go.Operand.tmp 30), type := 28, pos := "l2_plan.go:149", after := #[{ on := 4, ground := Go.Ground.data }], guard := none }) rfl (fun K hK => ?_) AllReadyH.nil
            go_simp
            refine hK.out _ _ trivial (fun hHeld => ?_)
            clear hK K
            (try simp only [Act.put, List.setIfInBounds_toArray, List.set_cons_zero, List.set_cons_succ])
            refine wpAnyH_ready (rs := [10]) (by kernel_rfl) (by simp) ?_
            refine AllReadyH.cons (o := { dst := some 36, op := Go.Op.call { callee := Go.Callee.builtin Go.Builtin.append, args := #[Go.Operand.tmp 31, Go.Operand.tmp 35], argTypes := #[28, 28] }, type := 28, pos := "l2_plan.go:149", after := #[{ on := 5, ground := Go.Ground.data }, { on := 9, ground := Go.Ground.data }, { on := 8, ground := Go.Ground.chain }], guard := none }) rfl (fun K hK => ?_) AllReadyH.nil
            refine step_append_eq _ (by rfl) _ _ _ (by rfl) _ _ _ _ (by rfl) (by rfl) hap2'.out ?_
            refine hK.out _ _ trivial (fun hHeld => ?_)
            clear hK K
            (try simp only [Act.put, List.setIfInBounds_toArray, List.set_cons_zero, List.set_cons_succ])
            refine wpAnyH_take (i := 11) (oi := { dst := some 37, op := Go.Op.nilCheck (Go.Operand.tmp 26), type := 0, pos := "l2_plan.go:149", after := #[{ on := 0, ground := Go.Ground.data }, { on := 0, ground := Go.Ground.phase }, { on := 1, ground := Go.Ground.phase }, { on := 2, ground := Go.Ground.phase }, { on := 3, ground := Go.Ground.phase }, { on := 4, ground := Go.Ground.phase }, { on := 5, ground := Go.Ground.phase }, { on := 6, ground := Go.Ground.phase }, { on := 7, ground := Go.Ground.phase }, { on := 8, ground := Go.Ground.phase }, { on := 9, ground := Go.Ground.phase }, { on := 10, ground := Go.Ground.phase }], guard := none }) (v := ?vv441_11) rfl (by kernel_rfl) (by kernel_rfl) (by kernel_rfl) (fun _ _ _ h => h) (Or.inl ⟨by rfl, ?hy441_11⟩) (by assumption) ?rest441_11
            case hy441_11 =>
              intro w hSw
              (try dsimp only at hSw)
              go_simp
              (try with_reducible rfl)
            simp only [Act.put, List.setIfInBounds_toArray, List.set_cons_zero, List.set_cons_succ]
            refine wpAnyH_take (i := 12) (oi := { dst := some 38, op := Go.Op.fieldAddr 137 (Go.Operand.tmp 37) 1, type := 0, pos := "l2_plan.go:149", after := #[{ on := 11, ground := Go.Ground.data }, { on := 0, ground := Go.Ground.phase }, { on := 1, ground := Go.Ground.phase }, { on := 2, ground := Go.Ground.phase }, { on := 3, ground := Go.Ground.phase }, { on := 4, ground := Go.Ground.phase }, { on := 5, ground := Go.Ground.phase }, { on := 6, ground := Go.Ground.phase }, { on := 7, ground := Go.Ground.phase }, { on := 8, ground := Go.Ground.phase }, { on := 9, ground := Go.Ground.phase }, { on := 10, ground := Go.Ground.phase }], guard := none }) (v := ?vv442_12) rfl (by kernel_rfl) (by kernel_rfl) (by kernel_rfl) (fun _ _ _ h => h) (Or.inl ⟨by rfl, ?hy442_12⟩) (by assumption) ?rest442_12
            case hy442_12 =>
              intro w hSw
              (try dsimp only at hSw)
              go_simp
              (try with_reducible rfl)
            simp only [Act.put, List.setIfInBounds_toArray, List.set_cons_zero, List.set_cons_succ]
            refine wpAnyH_take (i := 13) (oi := { dst := some 39, op := Go.Op.fieldAddr 30 (Go.Operand.tmp 38) 0, type := 0, pos := "l2_plan.go:149", after := #[{ on := 12, ground := Go.Ground.data }, { on := 0, ground := Go.Ground.phase }, { on := 1, ground := Go.Ground.phase }, { on := 2, ground := Go.Ground.phase }, { on := 3, ground := Go.Ground.phase }, { on := 4, ground := Go.Ground.phase }, { on := 5, ground := Go.Ground.phase }, { on := 6, ground := Go.Ground.phase }, { on := 7, ground := Go.Ground.phase }, { on := 8, ground := Go.Ground.phase }, { on := 9, ground := Go.Ground.phase }, { on := 10, ground := Go.Ground.phase }], guard := none }) (v := ?vv443_13) rfl (by kernel_rfl) (by kernel_rfl) (by kernel_rfl) (fun _ _ _ h => h) (Or.inl ⟨by rfl, ?hy443_13⟩) (by assumption) ?rest443_13
            case hy443_13 =>
              intro w hSw
              (try dsimp only at hSw)
              go_simp
              (try with_reducible rfl)
            simp only [Act.put, List.setIfInBounds_toArray, List.set_cons_zero, List.set_cons_succ]
            refine wpAnyH_ready (rs := [14]) (by kernel_rfl) (by simp) ?_
            refine AllReadyH.cons (o := { dst := none, op := Go.Op.store 28 (Go.Operand.tmp 39) (Go.Operand.tmp 36), type := 0, pos := "l2_plan.go:149", after := #[{ on := 13, ground := Go.Ground.data }, { on := 10, ground := Go.Ground.data }, { on := 10, ground := Go.Ground.chain }, { on := 0, ground := Go.Ground.phase }, { on := 1, ground := Go.Ground.phase }, { on := 2, ground := Go.Ground.phase }, { on := 3, ground := Go.Ground.phase }, { on := 4, ground := Go.Ground.phase }, { on := 5, ground := Go.Ground.phase }, { on := 6, ground := Go.Ground.phase }, { on := 7, ground := Go.Ground.phase }, { on := 8, ground := Go.Ground.phase }, { on := 9, ground := Go.Ground.phase }, { on := 10, ground := Go.Ground.phase }], guard := none }) rfl (fun K hK => ?_) AllReadyH.nil
            go_simp
            refine hK.out _ _ trivial (fun hHeld => ?_)
            clear hK K
            (try simp only [Act.put, List.setIfInBounds_toArray, List.set_cons_zero, List.set_cons_succ])
            refine wpAnyH_done (by kernel_rfl) ?_ _
            go_wp2
            go_roundw
            case rel => exact ⟨j + 1, _, _, by omega, rfl, hst'.out⟩
            case measure => simp only [intOf]; omega
    · obtain rfl : j = np := by omega
      go_wp2
      go_ret
      have hqo := hq'.out
      refine ⟨?_, hI.below⟩
      rcases hI.own.2 with ⟨e, h0⟩ | ⟨g, cp, cur, e, hgb, hgg, _⟩
      · subst h0
        exact ⟨w.heap.size + 1, none, 0, fun _ => .slice none 0 0, by rw [← hqo]; rfl, by rw [← hqo]; exact ⟨⟨hI.c0, hI.c1, hI.c2, by rw [hI.c3, e], hI.c4⟩, hI.z4, fun k hk => absurd hk (Nat.not_lt_zero k), fun k hk => absurd hk (Nat.not_lt_zero k), fun k _ hk => absurd hk (Nat.not_lt_zero k), fun k hk => absurd hk (Nat.not_lt_zero k), by omega, Nat.le_refl _, by omega⟩⟩
      · have ho := hI.own
        rw [e] at ho
        refine ⟨g, some ⟨g, 0, none⟩, cp, u, by rw [← hqo]; rfl, ?_⟩
        rw [← hqo]
        refine ⟨⟨hI.c0, hI.c1, hI.c2, by rw [hI.c3, e], hI.c4⟩, hI.z4, fun k hk => ⟨rfl, ?_, ho.frozenAt k⟩, fun k hk => Joins.ownsRow_le (hI.rows k hk) (by omega), hI.apart, fun k hk => ⟨fun e2 => ?_, fun e2 => hI.off k hk g e2 (by rw [e]; rfl)⟩, by omega, Nat.le_refl _, by omega⟩
        · rw [ho.cellAt k (by omega), List.getElem?_map, List.getElem?_range hk]; rfl
        · have := ((hI.rows k hk).lt q e2).1; omega
end Go.Proofs.YtnjaegeapcijpaaGreatDoor

namespace Go.Proofs.YtnjaegeapcijpaaGreatDoor
open Go.RowKit

theorem leave_bd {len np : Nat} {f : Nat → TrainD} {P : Nat → RowD} {last : Int} (hR : RightL len np f) (hQ : PartP np f P last) {j k : Nat} (hj : j < np) (hk : k < (P j).n) {e : Int} (he : leaveO f P j k = some e) : 0 ≤ e ∧ e ≤ last + 10000 := by
  have hn := hQ.le j hj
  have h1 := hQ.at0 j hj k hk
  obtain ⟨r0, r1, _⟩ := (hR.train j hj).leg k (by omega)
  unfold leaveO at he
  split at he
  · have := hQ.at0 j hj (k + 1) (by omega); simp only [Option.some.injEq] at he; omega
  · split at he
    · cases he
    · simp only [Option.some.injEq] at he; omega
theorem first_bd {len np : Nat} {g : Nat → Int} {f : Nat → TrainD} {P : Nat → RowD} {last s low t : Int} (hR : RightL len np f) (hQ : PartP np f P last) (h : IsFirst np g f P s low t) (hl : low ≤ last + 20000 ∨ low ≤ 110000) : t ≤ last + 20001 ∨ t ≤ 110000 := by
  rcases Int.lt_or_le low t with h1 | h1
  · left
    rcases Int.lt_or_le (last + 10001) t with h2 | h2
    · exfalso
      have hf := h.2.2 (t - 1) (by omega) (by omega)
      refine h.2.1 ?_
      unfold fullAt at *
      rw [thereAll_same (t := t - 1) (t' := t) (by omega) np (fun j hj k hk _ e he h3 => by have := leave_bd hR hQ hj hk he; omega)]
      exact hf
    · omega
  · have := h.1
    rcases hl with h2 | h2
    · left; omega
    · right; omega
theorem ready_bd {len np : Nat} {f : Nat → TrainD} {P : Nat → RowD} {last : Int} (hR : RightL len np f) (hQ : PartP np f P last) {i : Nat} (hi : i < np) (hk : (P i).n < (f i).nl) : 0 ≤ readyOf f P i (P i).n ∧ (readyOf f P i (P i).n ≤ last + 20000 ∨ readyOf f P i (P i).n ≤ 110000) := by
  have hRi := hR.train i hi
  have hr0 := hRi.r0
  have hr1 := hRi.r1
  have hl0 := hQ.l0
  cases hn : (P i).n with
  | zero => obtain ⟨_, _, l2, l3⟩ := hRi.leg 0 (by omega); simp only [readyOf]; omega
  | succ k =>
    have h1 := hQ.at0 i hi k (by omega)
    obtain ⟨r0, r1, _, _⟩ := hRi.leg k (by omega)
    obtain ⟨_, _, l2, l3⟩ := hRi.leg (k + 1) (by omega)
    simp only [readyOf]; omega
theorem low_bd {len np : Nat} {g : Nat → Int} {gap : Int} {f : Nat → TrainD} {P : Nat → RowD} {last : Int} (hR : RightL len np f) (hG : RightG len g gap np f) (hQ : PartP np f P last) {i : Nat} (hi : i < np) (hk : (P i).n < (f i).nl) : last ≤ lowOf np f P gap last i ∧ (lowOf np f P gap last i ≤ last + 20000 ∨ lowOf np f P gap last i ≤ 110000) := by
  have hrd := ready_bd hR hQ hi hk
  have g0 := hG.g0
  have g1 := hG.g1
  have hl0 := hQ.l0
  have hm : last ≤ maxZ (readyOf f P i (P i).n) last ∧ (maxZ (readyOf f P i (P i).n) last ≤ last + 20000 ∨ maxZ (readyOf f P i (P i).n) last ≤ 110000) := by unfold maxZ; split <;> omega
  have hB : ∀ B, maxZ (readyOf f P i (P i).n) last ≤ B → last + 20000 ≤ B → last ≤ lowOf np f P gap last i ∧ lowOf np f P gap last i ≤ B := fun B h1 h2 => by
    have := trackAll_bd (f := f) (P := P) (gap := gap) (i := i) (k := (P i).n) h1 (n := np) (fun j hj m hmm => by
      have h3 := hQ.at0 j hj m hmm
      obtain ⟨r0, r1, _⟩ := (hR.train j hj).leg m (by have := hQ.le j hj; omega)
      omega) np (Nat.le_refl _)
    unfold lowOf
    exact ⟨by omega, this.2⟩
  rcases Int.lt_or_le (last + 20000) 110000 with h | h
  · have := hB 110000 (by omega) (by omega); exact ⟨this.1, Or.inr this.2⟩
  · have := hB (last + 20000) (by omega) (by omega); exact ⟨this.1, Or.inl this.2⟩
theorem PartP.more {len np : Nat} {g : Nat → Int} {gap : Int} {f : Nat → TrainD} {P : Nat → RowD} {last t : Int} (hR : RightL len np f) (hG : RightG len g gap np f) (hQ : PartP np f P last) {i : Nat} (hi : i < np) (hk : (P i).n < (f i).nl) (h : IsFirst np g f P (stOf f P i) (lowOf np f P gap last i) t) {k : Nat} (hk10 : k < 10) (hl : last ≤ 110000 + 20001 * k) :
    PartP np f (moreP P i t) t ∧ t ≤ 110000 + 20001 * ((k + 1 : Nat) : Int) := by
  have h1 := low_bd hR hG hQ hi hk
  have h2 := first_bd hR hQ h h1.2
  have h3 := h.1
  have hl0 := hQ.l0
  have hb : t ≤ 110000 + 20001 * ((k + 1 : Nat) : Int) := by omega
  refine ⟨⟨fun j hj => ?_, fun j hj m hm => ?_, by omega, by omega⟩, hb⟩
  · by_cases e : j = i
    · subst e; simp only [moreP, if_pos]; omega
    · simp only [moreP, if_neg e]; exact hQ.le j hj
  · by_cases e : j = i
    · subst e
      simp only [moreP, if_pos] at hm ⊢
      by_cases e2 : m = (P j).n
      · rw [if_pos e2]; omega
      · rw [if_neg e2]; have := hQ.at0 j hj m (by omega); omega
    · simp only [moreP, if_neg e] at hm ⊢
      have := hQ.at0 j hj m hm; omega

structure StP where
  code : Int
  at_ : Nat
  P : Nat → RowD
  last : Int
noncomputable def stepP (np : Nat) (g : Nat → Int) (f : Nat → TrainD) (gap : Int) (o : Int) (k : Nat) (st : StP) : StP :=
  if st.code ≠ 0 then st else if inB o 0 ((np : Int) - 1) = true then
    (if (nextOf np g f st.P gap st.last o.toNat).1 = 0 then ⟨0, 0, moreP st.P o.toNat (nextOf np g f st.P gap st.last o.toNat).2, (nextOf np g f st.P gap st.last o.toNat).2⟩ else ⟨(nextOf np g f st.P gap st.last o.toNat).1, k, st.P, st.last⟩)
  else ⟨2, k, st.P, st.last⟩
noncomputable def runP (np : Nat) (g : Nat → Int) (f : Nat → TrainD) (gap : Int) (o : Nat → Int) : Nat → StP
  | 0 => ⟨0, 0, fun _ => ⟨0, fun _ => 0⟩, 0⟩
  | k + 1 => stepP np g f gap (o k) k (runP np g f gap o k)
/-- how many legs of each are placed, in all -/
def rowSumQ (P : Nat → RowD) : Nat → Nat
  | 0 => 0
  | i + 1 => rowSumQ P i + (P i).n
theorem rowSumQ_more {P : Nat → RowD} {i : Nat} {t : Int} : ∀ n, rowSumQ (moreP P i t) n = rowSumQ P n + (if i < n then 1 else 0)
  | 0 => rfl
  | n + 1 => by
    simp only [rowSumQ, rowSumQ_more n]
    by_cases e : n = i
    · subst e; simp [moreP]; omega
    · have h : (moreP P i t n).n = (P n).n := by simp [moreP, e]
      rw [h]
      by_cases h2 : i < n
      · rw [if_pos h2, if_pos (by omega)]; omega
      · rw [if_neg h2, if_neg (by omega)]; omega
/-- a run that has come so far without a code -/
structure RunOk (len np : Nat) (g : Nat → Int) (f : Nat → TrainD) (gap : Int) (st : StP) (k : Nat) : Prop where
  part : PartP np f st.P st.last
  lb : st.last ≤ 110000 + 20001 * (k : Int)
  sum : rowSumQ st.P np = k
theorem runP_zero (np : Nat) (g : Nat → Int) (f : Nat → TrainD) (gap : Int) (o : Nat → Int) (len : Nat) : RunOk len np g f gap (runP np g f gap o 0) 0 := by
  refine ⟨⟨fun j _ => Nat.zero_le _, fun j _ m hm => ?_, by show (0 : Int) ≤ 0; omega, by show (0 : Int) ≤ 600000; omega⟩, by show (0 : Int) ≤ _; omega, ?_⟩
  · exact absurd hm (Nat.not_lt_zero _)
  · show rowSumQ (fun _ => ⟨0, fun _ => 0⟩) np = 0
    induction np with
    | zero => rfl
    | succ n ih => simp only [rowSumQ, ih]
theorem runOk_step {len np : Nat} {g : Nat → Int} {gap : Int} {f : Nat → TrainD} (hR : RightL len np f) (hG : RightG len g gap np f) {st : StP} {k : Nat} (h : RunOk len np g f gap st k) (hc : st.code = 0) {i : Nat} (hi : i < np) {t : Int} (hk : (st.P i).n < (f i).nl) (hf : IsFirst np g f st.P (stOf f st.P i) (lowOf np f st.P gap st.last i) t) (hk10 : k < 10) :
    stepP np g f gap (i : Int) k st = ⟨0, 0, moreP st.P i t, t⟩ ∧ RunOk len np g f gap ⟨0, 0, moreP st.P i t, t⟩ (k + 1) := by
  have hn := nextOf_ok (np := np) (g := g) (gap := gap) (last := st.last) (by omega) hf
  have hp := h.part.more hR hG hi hk hf hk10 h.lb
  refine ⟨?_, hp.1, hp.2, ?_⟩
  · unfold stepP
    rw [if_neg (by simp [hc]), if_pos (by unfold inB; simp; omega), Int.toNat_natCast, hn, if_pos rfl]
  · show rowSumQ (moreP st.P i t) np = k + 1
    rw [rowSumQ_more, if_pos hi, h.sum]
end Go.Proofs.YtnjaegeapcijpaaGreatDoor

namespace Go.Proofs.YtnjaegeapcijpaaGreatDoor
open Go.RowKit

structure NewP (w wr : World) (b : Nat) (a : Option Addr) (len cap : Nat) (gap : Int) (a' : Option Addr) (np cap' : Nat) (j : Nat) (vS : Value) : Prop where
  c0 : wr.cell? ⟨b, 0, none⟩ = some (.slice a len cap)
  c1 : wr.cell? ⟨b, 1, none⟩ = some (.int .i64 gap)
  c2 : wr.cell? ⟨b, 2, none⟩ = some (.slice a' np cap')
  c3 : wr.cell? ⟨b, 3, none⟩ = some vS
  c4 : wr.cell? ⟨b, 4, none⟩ = some (.int .i64 0)
  z3 : wr.frozen? ⟨b, 3, none⟩ = false
  z4 : wr.frozen? ⟨b, 4, none⟩ = false
  own : wr.ownsRow (b + 1) 23 1 vS j (List.replicate j (.slice none 0 0))
  below : Below w.heap.size w wr
theorem NewP.step {w wr w' : World} {b : Nat} {a : Option Addr} {len cap : Nat} {gap : Int} {a' : Option Addr} {np cap' : Nat} {j : Nat} {vS v' : Value} (h : NewP w wr b a len cap gap a' np cap' j vS) (hb : w.heap.size ≤ b)
    (ho : w'.ownsRow (b + 1) 23 1 v' (j + 1) (List.replicate j (.slice none 0 0) ++ [.slice none 0 0])) (hg : (wr.alloc (.cells #[.slice none 0 0] 23)).grownBy w' vS.ownBlock) :
    NewP w (w'.setCell ⟨b, 3, none⟩ v') b a len cap gap a' np cap' (j + 1) v' ∧ w'.cell? ⟨b, 3, none⟩ = some vS ∧ w'.frozen? ⟨b, 3, none⟩ = false := by
  have hB := b1 wr (.cells #[.slice none 0 0] 23)
  have lb : b < wr.heap.size := ltCell h.c0
  have hk : w'.heap[b]? = (wr.alloc (.cells #[.slice none 0 0] 23)).heap[b]? := hg.block b (by have := hB.size; omega) (fun e => by have := (h.own.lt b e.symm).1; omega)
  have cc : ∀ o u, wr.cell? ⟨b, o, none⟩ = some u → w'.cell? ⟨b, o, none⟩ = some u := fun o u hu => (World.cell?_of_block (w := wr.alloc (.cells #[.slice none 0 0] 23)) (w' := w') (a := ⟨b, o, none⟩) hk).trans (cellLater hB hu)
  have zz : ∀ o u, wr.cell? ⟨b, o, none⟩ = some u → wr.frozen? ⟨b, o, none⟩ = false → w'.frozen? ⟨b, o, none⟩ = false := fun o u hu hz => (World.frozen?_of_block (w := wr.alloc (.cells #[.slice none 0 0] 23)) (w' := w') (a := ⟨b, o, none⟩) hk).trans ((hB.frozen (ltCell hu)).trans hz)
  refine ⟨⟨(cell_set_ne (by decide)).trans (cc 0 _ h.c0), (cell_set_ne (by decide)).trans (cc 1 _ h.c1), (cell_set_ne (by decide)).trans (cc 2 _ h.c2), World.cell?_setCell_same _ _ _ (cc 3 _ h.c3), (cell_set_ne (by decide)).trans (cc 4 _ h.c4), by rw [World.frozen?_setCell]; exact zz 3 _ h.c3 h.z3, by rw [World.frozen?_setCell]; exact zz 4 _ h.c4 h.z4, ?_, ?_⟩, cc 3 _ h.c3, zz 3 _ h.c3 h.z3⟩
  · rw [List.replicate_succ']
    exact ownsRow_setCell_below ho (Nat.lt_succ_self _) _
  · exact ((Below.join h.below (Nat.le_refl _) hB).grown hg (by have := h.below.size; have := hB.size; omega) (fun k hk2 => by have := (h.own.lt k hk2).1; omega)).setCell (p := ⟨b, 3, none⟩) hb _

set_option maxRecDepth 20000 in
set_option maxHeartbeats 4000000 in
theorem l2new_any (a : Option Addr) (len cap : Nat) (gap : Int) (a' : Option Addr) (np cap' : Nat) (w : World) (hn : np ≤ 5) :
    Calls Tryz.prog 48 #[.agg #[.slice a len cap, .int .i64 gap, .slice a' np cap']] w fun e w' => (∃ gR c nc, e = .returned (.pointer (some ⟨w.heap.size + 1, 0, none⟩)) ∧ LP w.heap.size w' (w.heap.size + 1) gR a len cap gap a' np cap' c nc (fun _ => .slice none 0 0) (fun _ => ⟨0, fun _ => 0⟩) 0) ∧ Below w.heap.size w w' := by
  obtain ⟨i0, hi, hz0, hz1, hz2⟩ := info_parts Tryz.infoRow
  obtain ⟨y0, y1, y2⟩ := new3 w (.slice a len cap) (.int .i64 gap) (.slice a' np cap') 26
  go_enter Tryz.func48, Tryz.ntmps48
  go_wp2
  have hN := b2 w (.cells #[.slice a len cap, .int .i64 gap, .slice a' np cap'] 26) (.cells #[.slice a len cap, .int .i64 gap, .slice a' np cap', .slice none 0 0, .int .i64 0] 137)
  have hTb := Go.heap_alloc_new (w.alloc (.cells #[.slice a len cap, .int .i64 gap, .slice a' np cap'] 26)) (.cells #[.slice a len cap, .int .i64 gap, .slice a' np cap', .slice none 0 0, .int .i64 0] 137)
  rw [World.size_alloc] at hTb
  refine nameW fun V hV => ?_
  rw [← hV] at hTb hN
  have e0 := cell_of_row V (w.heap.size + 1) 0 _ _ _ hTb
  have e1 := cell_of_row V (w.heap.size + 1) 1 _ _ _ hTb
  have e2 := cell_of_row V (w.heap.size + 1) 2 _ _ _ hTb
  have e3 := cell_of_row V (w.heap.size + 1) 3 _ _ _ hTb
  have e4 := cell_of_row V (w.heap.size + 1) 4 _ _ _ hTb
  simp at e0 e1 e2 e3 e4
  have z3 : V.frozen? ⟨w.heap.size + 1, 3, none⟩ = false := by rw [hV]; rw [World.frozen?_alloc_at _ _ _ _ (by simp)]
  have z4 : V.frozen? ⟨w.heap.size + 1, 4, none⟩ = false := by rw [hV]; rw [World.frozen?_alloc_at _ _ _ _ (by simp)]
  clear hV hTb y0 y1 y2
  go_loopw [10] (fun jj wr => ∃ (j : Nat) (vS : Value), j ≤ np ∧ jj = .int .i64 j ∧ NewP w wr (w.heap.size + 1) a len cap gap a' np cap' j vS) (fun jj _ => np - (intOf jj).toNat)
  case atStart => exact ⟨0, .slice none 0 0, Nat.zero_le _, rfl, e0, e1, e2, e3, e4, z3, z4, World.ownsRow_nil _ _ _ _, hN⟩
  case round =>
    obtain ⟨j, vS, hj, rfl, hP⟩ := hrel
    by_cases hlt : j < np
    · have hj' : (j : Int) < (np : Int) := by omega
      have c3 := hP.c3
      have lb := ltCell c3
      dsimp only at lb
      go_wp2_with (at_builtin; refine wpList_append_own _ rfl _ _ 28 rfl (w.heap.size + 1 + 1) 23 i0 _ 1 24 Tryz.underlying28 hi hz0 hz1 hz2 rfl (by decide) _ _ _ rfl (hP.own.alloc _) ⟨wr.heap.size, 0, none⟩ 1 1 [.slice none 0 0] rfl rfl cells1_lie (fun u hu => by simp at hu; subst hu; rfl) (by unfold maxLen; omega) (by omega) (by simp only [World.size_alloc]; omega) ?_)
      intro v' w6 hown' hgrow _
      obtain ⟨hP2, m3, mz⟩ := hP.step (by omega) hown' hgrow
      have hform := Joins.ownsRow_form hown' (by omega)
      obtain ⟨gn, cn, rfl⟩ := hform
      have hP2' : Hid _ := hP2
      clear hP2 hown' hgrow c3
      go_wp2
      go_roundw
      case rel => exact ⟨j + 1, _, by omega, by go_num, hP2'.out⟩
      case measure => simp [intOf]; omega
    · obtain rfl : j = np := by omega
      go_wp2
      go_ret
      refine ⟨?_, hP.below⟩
      have hb : w.heap.size ≤ w.heap.size + 1 := by omega
      rcases hP.own.2 with ⟨e, h0⟩ | ⟨gR, cp, cur, e, hgb, hgg, _⟩
      · subst h0
        exact ⟨w.heap.size, none, 0, rfl, ⟨hP.c0, hP.c1, hP.c2, by rw [hP.c3, e], hP.c4⟩, hP.z4, fun k hk => by omega, fun k hk => by omega, fun k _ hk => by omega, fun k hk => by omega, by omega, hb, Nat.le_refl _⟩
      · have ho := hP.own
        rw [e] at ho
        refine ⟨gR, some ⟨gR, 0, none⟩, cp, rfl, ⟨hP.c0, hP.c1, hP.c2, by rw [hP.c3, e], hP.c4⟩, hP.z4, fun k hk => ⟨rfl, ?_, ho.frozenAt k⟩, fun k hk => World.ownsRow_nil _ _ _ _, fun k m _ _ _ => Or.inl rfl, fun k hk => ⟨by simp [Value.ownBlock], by simp [Value.ownBlock]⟩, by omega, hb, by omega⟩
        rw [ho.cellAt k (by omega), List.getElem?_replicate, if_pos hk]
end Go.Proofs.YtnjaegeapcijpaaGreatDoor

namespace Go.Proofs.YtnjaegeapcijpaaGreatDoor
open Go.RowKit

def OwnP (B0 : Nat) (W : World) (c : Option Addr) (np : Nat) (P : Nat → RowD) : Prop := ∃ (gR : Nat) (v : Nat → Value), B0 ≤ gR ∧
  (∀ j, j < np → c = some ⟨gR, 0, none⟩ ∧ W.cell? ⟨gR, j, none⟩ = some (v j) ∧ W.frozen? ⟨gR, j, none⟩ = false) ∧ (∀ j, j < np → W.ownsRow B0 3 1 (v j) (P j).n (rowCells (P j))) ∧
  (∀ j k, j < np → k < np → j ≠ k → Apart (v j) (v k)) ∧ ∀ j, j < np → (v j).ownBlock ≠ some gR
theorem LP.ownP {B0 : Nat} {W : World} {b gR : Nat} {a : Option Addr} {len cap : Nat} {gap : Int} {a' : Option Addr} {np cap' : Nat} {c : Option Addr} {nc : Nat} {v : Nat → Value} {P : Nat → RowD} {last : Int} (h : LP B0 W b gR a len cap gap a' np cap' c nc v P last) : OwnP B0 W c np P :=
  ⟨gR, v, h.lg, h.row, h.own, h.apart, fun j hj => (h.off j hj).2⟩
section
variable {B0 : Nat} {W : World} {c : Option Addr} {np : Nat} {P : Nat → RowD}
theorem OwnP.same (h : OwnP B0 W c np P) {W' : World} (hs : ∀ k, B0 ≤ k → k < W.heap.size → W'.heap[k]? = W.heap[k]?) : OwnP B0 W' c np P := by
  obtain ⟨gR, v, h1, h2, h3, h4, h5⟩ := h
  refine ⟨gR, v, h1, fun j hj => ?_, fun j hj => ownsRow_same (h3 j hj) (fun k hk => hs k ((h3 j hj).lt k hk).1 ((h3 j hj).lt k hk).2), h4, h5⟩
  obtain ⟨e, hc, hz⟩ := h2 j hj
  have hg := hs gR h1 (ltCell hc)
  exact ⟨e, (World.cell?_of_block (w := W) (w' := W') (a := ⟨gR, j, none⟩) hg).trans hc, (World.frozen?_of_block (w := W) (w' := W') (a := ⟨gR, j, none⟩) hg).trans hz⟩
theorem OwnP.later (h : OwnP B0 W c np P) {W' : World} (hB : Below W.heap.size W W') : OwnP B0 W' c np P := h.same (fun k _ hk => hB.block k hk)
theorem OwnP.set (h : OwnP B0 W c np P) {p : Addr} {x : Value} (hp : p.block < B0) : OwnP B0 (W.setCell p x) c np P := h.same (fun k hk _ => Below.heap_setCell W p x k (by omega))
theorem OwnP.low (h : OwnP B0 W c np P) {B1 : Nat} (hb : B1 ≤ B0) : OwnP B1 W c np P := by
  obtain ⟨gR, v, h1, h2, h3, h4, h5⟩ := h
  exact ⟨gR, v, by omega, h2, fun j hj => Joins.ownsRow_le (h3 j hj) hb, h4, h5⟩
theorem OwnP.rows (h : OwnP B0 W c np P) (hn : ∀ j, j < np → (P j).n ≤ 10) : IsRows B0 W.heap.size W c np P := fun j hj => by
  obtain ⟨gR, v, h1, h2, h3, h4, h5⟩ := h
  obtain ⟨e, hc, _⟩ := h2 j hj
  have ho := h3 j hj
  have hml : (P j).n ≤ maxLen := by have := hn j hj; unfold maxLen; omega
  rcases ho.2 with ⟨e0, h0⟩ | ⟨g, cp, cur, e0, hb, hg, _⟩
  · exact ⟨gR, 0, none, 0, e, h1, ltCell hc, by rw [Nat.zero_add, hc, e0, h0], fun m hm => by omega, hml⟩
  · refine ⟨gR, 0, some ⟨g, 0, none⟩, cp, e, h1, ltCell hc, by rw [Nat.zero_add, hc, e0], fun m hm => ?_, hml⟩
    rw [e0] at ho
    exact ⟨g, 0, rfl, (ho.lt g rfl).1, (ho.lt g rfl).2, by rw [Nat.zero_add, ho.cellAt m (by omega)]; exact rowCells_at _ _ hm⟩
end
end Go.Proofs.YtnjaegeapcijpaaGreatDoor
