/-
  Holds put in order by when they begin, then by train: what the program hands to the sort, and what it gets.
-/
import Derived.Test.YtmmkggkneefhoabGreatDoorShelfO
import Derived.Test.YtmmkggkneefhoabGreatDoorSpecO
import Derived.Test.YtmmkggkneefhoabGreatDoorApp
namespace Go.Proofs.YtmmkggkneefhoabGreatDoor
open Go.RowKit Go.Shelf Go.Lib Go.Sort

instance : Inhabited HoldD := ⟨⟨0, 0, 0⟩⟩
def encH (x : HoldD) : List Value := [.int .i64 x.tr, .int .i64 x.frm, .int .i64 x.free]
/-- the first that is not 0 -/
def orI (x y : Int) : Int := if x = 0 then y else x
def cfH (x y : HoldD) : Int := orI (Lib.compareInt x.frm y.frm) (Lib.compareInt x.tr y.tr)
theorem cfH_lt (x y : HoldD) : ltOf cfH x y = ltH x y := by
  unfold ltOf cfH orI ltH Lib.compareInt
  rcases Int.lt_trichotomy x.frm y.frm with h | h | h
  · have h1 : ¬ y.frm < x.frm := by omega
    simp [h]
  · rcases Nat.lt_trichotomy x.tr y.tr with k | k | k
    · have h1 : (x.tr : Int) < y.tr := by omega
      simp [h, k]
    · simp [h, k]
    · have h1 : (y.tr : Int) < x.tr := by omega
      have h2 : ¬ (x.tr : Int) < y.tr := by omega
      have h3 : ¬ x.tr < y.tr := by omega
      simp [h, h3, k]
  · have h1 : ¬ x.frm < y.frm := by omega
    have h2 : ¬ x.frm = y.frm := by omega
    simp [h, h1, h2]
theorem swoH : SWO (ltOf cfH) where
  irrefl x := by rw [cfH_lt]; simp [ltH]
  trans x y z h1 h2 := by rw [cfH_lt] at *; simp [ltH] at *; omega
  ntrans x y z h1 h2 := by rw [cfH_lt] at *; simp [ltH] at *; omega

theorem orInt_any (b cap : Nat) (x y : Int) (w : World) (h0 : w.cell? ⟨b, 0, none⟩ = some (.int .i64 x)) (h1 : w.cell? ⟨b, 1, none⟩ = some (.int .i64 y)) :
    Calls Tryz.prog 61 #[.slice (some ⟨b, 0, none⟩) 2 cap] w fun e w' => e = .returned (.int .i64 (orI x y)) ∧ w' = w := by
  go_enter Tryz.func61, Tryz.ntmps61
  go_wp2
  go_loopw [8] (fun ii wr => ∃ (k : Nat), k ≤ 2 ∧ ii = .int .i64 k ∧ (1 ≤ k → x = 0) ∧ (2 ≤ k → y = 0) ∧ wr = w) (fun ii _ => 2 - (intOf ii).toNat)
  case atStart => exact ⟨0, by omega, rfl, fun h => by omega, fun h => by omega, rfl⟩
  case round =>
    obtain ⟨k, hk, rfl, hx, hy, rfl⟩ := hrel
    match k, hk with
    | 0, _ =>
      by_cases e : x = 0
      · subst e
        go_wp2
        go_roundw
        case rel => exact ⟨1, by omega, by go_num, fun _ => (by first | rfl | trivial), fun h => by omega, (by first | rfl | trivial)⟩
        case measure => simp [intOf]
      · have e1 : orI x y = x := if_neg e
        have e2 : (x != 0) = true := by simpa using e
        go_wp2
        go_ret
        exact ⟨by rw [e1]; rfl, rfl⟩
    | 1, _ =>
      have e1 : orI x y = y := if_pos (hx (by omega))
      by_cases e : y = 0
      · subst e
        go_wp2
        go_roundw
        case rel => exact ⟨2, by omega, by go_num, fun _ => hx (by omega), fun _ => (by first | rfl | trivial), (by first | rfl | trivial)⟩
        case measure => simp [intOf]
      · have e2 : (y != 0) = true := by simpa using e
        go_wp2
        go_ret
        exact ⟨by rw [e1]; rfl, rfl⟩
    | 2, _ =>
      have e1 : orI x y = 0 := (if_pos (hx (by omega))).trans (hy (by omega))
      go_wp2
      go_ret
      exact ⟨by rw [e1]; rfl, rfl⟩

def Grew (w w' : World) : Prop := ∃ q os, w' = grow (w.drewN q) os
theorem Grew.refl (w : World) : Grew w w := ⟨0, #[], by rw [grow_empty]; rfl⟩
theorem Grew.alloc {w w' : World} (h : Grew w w') (o : Obj) : Grew w (w'.alloc o) := by
  obtain ⟨q, os, rfl⟩ := h
  exact ⟨q, os ++ #[o], by rw [alloc_eq_grow, grow_grow]⟩
theorem Grew.drew {w w' : World} (h : Grew w w') : Grew w w'.drew := by
  obtain ⟨q, os, rfl⟩ := h
  exact ⟨q + 1, os, by rw [drew_grow]; rfl⟩

set_option maxRecDepth 20000 in
set_option maxHeartbeats 4000000 in
theorem closureO_any (x y : HoldD) (w : World) : Calls Tryz.prog 60 #[.agg #[.int .i64 x.tr, .int .i64 x.frm, .int .i64 x.free], .agg #[.int .i64 y.tr, .int .i64 y.frm, .int .i64 y.free]] w fun e w' => e = .returned (.int .i64 (cfH x y)) ∧ Grew w w' := by
  have hcon := fun p q W' => AnyG.cmp_Compare_int Tryz.cmpInt p q W'
  change ∀ p q W', Calls Tryz.prog 62 _ _ _ at hcon
  obtain ⟨y0, y1, y2⟩ := new3 w (.int .i64 x.tr) (.int .i64 x.frm) (.int .i64 x.free) 96
  obtain ⟨z0, z1, z2⟩ := new3 (w.alloc (.cells #[.int .i64 x.tr, .int .i64 x.frm, .int .i64 x.free] 96)) (.int .i64 y.tr) (.int .i64 y.frm) (.int .i64 y.free) 96
  have hb := b1 (w.alloc (.cells #[.int .i64 x.tr, .int .i64 x.frm, .int .i64 x.free] 96)) (.cells #[.int .i64 y.tr, .int .i64 y.frm, .int .i64 y.free] 96)
  replace y0 := cellLater hb y0
  replace y1 := cellLater hb y1
  rw [World.size_alloc] at z0 z1 z2
  have hG : Grew w ((w.alloc (.cells #[.int .i64 x.tr, .int .i64 x.frm, .int .i64 x.free] 96)).alloc (.cells #[.int .i64 y.tr, .int .i64 y.frm, .int .i64 y.free] 96)) := ((Grew.refl w).alloc _).alloc _
  have hcf : cfH x y = orI (Lib.compareInt x.frm y.frm) (Lib.compareInt x.tr y.tr) := rfl
  rw [hcf]
  clear hcf
  generalize hp : Lib.compareInt x.frm y.frm = p
  generalize hq : Lib.compareInt (x.tr : Int) (y.tr : Int) = q
  have hc1 := fun W' => hcon x.frm y.frm W'
  have hc2 := fun W' => hcon x.tr y.tr W'
  rw [hp] at hc1
  rw [hq] at hc2
  clear hp hq hcon
  go_enter Tryz.func60, Tryz.ntmps60
  go_wp2
  refine nameW fun W hW => ?_
  rw [← hW] at hG y0 y1 z0 z1 hb
  clear hW y2 z2
  have hS0 : W.drew.cell? ⟨w.heap.size, 0, none⟩ = some (.int .i64 x.tr) ∧ W.drew.cell? ⟨w.heap.size, 1, none⟩ = some (.int .i64 x.frm) ∧ W.drew.cell? ⟨w.heap.size + 1, 0, none⟩ = some (.int .i64 y.tr) ∧ W.drew.cell? ⟨w.heap.size + 1, 1, none⟩ = some (.int .i64 y.frm) := ⟨y0, y1, z0, z1⟩
  have hS1 : ∀ V : World, Below W.drew.heap.size W.drew V → V.cell? ⟨w.heap.size, 0, none⟩ = some (.int .i64 x.tr) ∧ V.cell? ⟨w.heap.size, 1, none⟩ = some (.int .i64 x.frm) ∧ V.cell? ⟨w.heap.size + 1, 0, none⟩ = some (.int .i64 y.tr) ∧ V.cell? ⟨w.heap.size + 1, 1, none⟩ = some (.int .i64 y.frm) := fun V hV => ⟨cellLater hV hS0.1, cellLater hV hS0.2.1, cellLater hV hS0.2.2.1, cellLater hV hS0.2.2.2⟩
  have hA2 := b1 W.drew (.cells #[.int .i64 p, .int .i64 q] 3)
  obtain ⟨m0, m1⟩ := new2 W.drew (.int .i64 p) (.int .i64 q) 3
  have hOr := fun _ : Unit => orInt_any W.drew.heap.size 2 p q _ m0 m1
  have hS1' : Hid _ := hS1
  have hOr' : Hid _ := hOr
  have hc1' : Hid _ := hc1
  have hc2' : Hid _ := hc2
  clear hS1 hOr hc1 hc2 y0 y1 z0 z1 m0 m1
  refine wp_region_held_drew (S := (fun w' => w'.cell? ⟨w.heap.size, 0, none⟩ = some (.int .i64 x.tr) ∧ w'.cell? ⟨w.heap.size, 1, none⟩ = some (.int .i64 x.frm) ∧ w'.cell? ⟨w.heap.size + 1, 0, none⟩ = some (.int .i64 y.tr) ∧ w'.cell? ⟨w.heap.size + 1, 1, none⟩ = some (.int .i64 y.frm))) (by kernel_rfl) hS0 (fun hHeld => ?_)
  refine wpAnyH_take (i := 0) (oi := { dst := some 5, op := Go.Op.fieldAddr 96 (Go.Operand.tmp 2) 1, type := 0, pos := "l3_best.go:41", after := #[], guard := none }) (v := ?vvo0) rfl (by kernel_rfl) (by kernel_rfl) (by kernel_rfl) (fun _ _ _ h => h) (Or.inl ⟨by rfl, ?hyo0⟩) (by assumption) ?resto0
  case hyo0 =>
    intro w hSw
    (try dsimp only at hSw)
    go_simp
    (try with_reducible rfl)
  simp only [Act.put, List.setIfInBounds_toArray, List.set_cons_zero, List.set_cons_succ]
  refine wpAnyH_take (i := 1) (oi := { dst := some 6, op := Go.Op.load 3 (Go.Operand.tmp 5), type := 3, pos := "l3_best.go:41", after := #[{ on := 0, ground := Go.Ground.data }], guard := none }) (v := ?vvo1) rfl (by kernel_rfl) (by kernel_rfl) (by kernel_rfl) (fun _ _ _ h => h) (Or.inl ⟨by rfl, ?hyo1⟩) (by assumption) ?resto1
  case hyo1 =>
    intro w hSw
    (try dsimp only at hSw)
    go_simp
    (try with_reducible rfl)
  simp only [Act.put, List.setIfInBounds_toArray, List.set_cons_zero, List.set_cons_succ]
  refine wpAnyH_take (i := 2) (oi := { dst := some 7, op := Go.Op.fieldAddr 96 (Go.Operand.tmp 3) 1, type := 0, pos := "l3_best.go:41", after := #[], guard := none }) (v := ?vvo2) rfl (by kernel_rfl) (by kernel_rfl) (by kernel_rfl) (fun _ _ _ h => h) (Or.inl ⟨by rfl, ?hyo2⟩) (by assumption) ?resto2
  case hyo2 =>
    intro w hSw
    (try dsimp only at hSw)
    go_simp
    (try with_reducible rfl)
  simp only [Act.put, List.setIfInBounds_toArray, List.set_cons_zero, List.set_cons_succ]
  refine wpAnyH_take (i := 3) (oi := { dst := some 8, op := Go.Op.load 3 (Go.Operand.tmp 7), type := 3, pos := "l3_best.go:41", after := #[{ on := 2, ground := Go.Ground.data }], guard := none }) (v := ?vvo3) rfl (by kernel_rfl) (by kernel_rfl) (by kernel_rfl) (fun _ _ _ h => h) (Or.inl ⟨by rfl, ?hyo3⟩) (by assumption) ?resto3
  case hyo3 =>
    intro w hSw
    (try dsimp only at hSw)
    go_simp
    (try with_reducible rfl)
  simp only [Act.put, List.setIfInBounds_toArray, List.set_cons_zero, List.set_cons_succ]
  refine wpAnyH_take (i := 5) (oi := { dst := some 10, op := Go.Op.fieldAddr 96 (Go.Operand.tmp 2) 0, type := 0, pos := "l3_best.go:41", after := #[], guard := none }) (v := ?vvo5) rfl (by kernel_rfl) (by kernel_rfl) (by kernel_rfl) (fun _ _ _ h => h) (Or.inl ⟨by rfl, ?hyo5⟩) (by assumption) ?resto5
  case hyo5 =>
    intro w hSw
    (try dsimp only at hSw)
    go_simp
    (try with_reducible rfl)
  simp only [Act.put, List.setIfInBounds_toArray, List.set_cons_zero, List.set_cons_succ]
  refine wpAnyH_take (i := 6) (oi := { dst := some 11, op := Go.Op.load 3 (Go.Operand.tmp 10), type := 3, pos := "l3_best.go:41", after := #[{ on := 5, ground := Go.Ground.data }], guard := none }) (v := ?vvo6) rfl (by kernel_rfl) (by kernel_rfl) (by kernel_rfl) (fun _ _ _ h => h) (Or.inl ⟨by rfl, ?hyo6⟩) (by assumption) ?resto6
  case hyo6 =>
    intro w hSw
    (try dsimp only at hSw)
    go_simp
    (try with_reducible rfl)
  simp only [Act.put, List.setIfInBounds_toArray, List.set_cons_zero, List.set_cons_succ]
  refine wpAnyH_take (i := 7) (oi := { dst := some 12, op := Go.Op.fieldAddr 96 (Go.Operand.tmp 3) 0, type := 0, pos := "l3_best.go:41", after := #[], guard := none }) (v := ?vvo7) rfl (by kernel_rfl) (by kernel_rfl) (by kernel_rfl) (fun _ _ _ h => h) (Or.inl ⟨by rfl, ?hyo7⟩) (by assumption) ?resto7
  case hyo7 =>
    intro w hSw
    (try dsimp only at hSw)
    go_simp
    (try with_reducible rfl)
  simp only [Act.put, List.setIfInBounds_toArray, List.set_cons_zero, List.set_cons_succ]
  refine wpAnyH_take (i := 8) (oi := { dst := some 13, op := Go.Op.load 3 (Go.Operand.tmp 12), type := 3, pos := "l3_best.go:41", after := #[{ on := 7, ground := Go.Ground.data }], guard := none }) (v := ?vvo8) rfl (by kernel_rfl) (by kernel_rfl) (by kernel_rfl) (fun _ _ _ h => h) (Or.inl ⟨by rfl, ?hyo8⟩) (by assumption) ?resto8
  case hyo8 =>
    intro w hSw
    (try dsimp only at hSw)
    go_simp
    (try with_reducible rfl)
  simp only [Act.put, List.setIfInBounds_toArray, List.set_cons_zero, List.set_cons_succ]
  refine wpAnyH_ready (rs := [4]) (by kernel_rfl) (by simp) ?_
  refine AllReadyH.cons (o := { dst := some 9, op := Go.Op.call { callee := Go.Callee.value (Go.Operand.func 62), args := #[Go.Operand.tmp 6, Go.Operand.tmp 8], argTypes := #[3, 3] }, type := 3, pos := "l3_best.go:41", after := #[{ on := 1, ground := Go.Ground.data }, { on := 3, ground := Go.Ground.data }], guard := none }) rfl (fun K hK => ?_) AllReadyH.nil
  go_simp
  refine (hc1'.out _).mono ?_
  rintro _ _ ⟨rfl, rfl⟩
  refine hK.out _ _ hS0 (fun hHeld => ?_)
  clear hK K
  (try simp only [Act.put, List.setIfInBounds_toArray, List.set_cons_zero, List.set_cons_succ])
  refine wpAnyH_ready (rs := [9]) (by kernel_rfl) (by simp) ?_
  refine AllReadyH.cons (o := { dst := some 14, op := Go.Op.call { callee := Go.Callee.value (Go.Operand.func 62), args := #[Go.Operand.tmp 11, Go.Operand.tmp 13], argTypes := #[3, 3] }, type := 3, pos := "l3_best.go:41", after := #[{ on := 6, ground := Go.Ground.data }, { on := 8, ground := Go.Ground.data }, { on := 4, ground := Go.Ground.chain }], guard := none }) rfl (fun K hK => ?_) AllReadyH.nil
  go_simp
  refine (hc2'.out _).mono ?_
  rintro _ _ ⟨rfl, rfl⟩
  refine hK.out _ _ hS0 (fun hHeld => ?_)
  clear hK K
  (try simp only [Act.put, List.setIfInBounds_toArray, List.set_cons_zero, List.set_cons_succ])
  refine wpAnyH_ready (rs := [10]) (by kernel_rfl) (by simp) ?_
  refine AllReadyH.cons (o := { dst := some 15, op := Go.Op.buildSlice 22 2 #[(0, Go.Operand.tmp 9), (1, Go.Operand.tmp 14)], type := 22, pos := "l3_best.go:41", after := #[{ on := 4, ground := Go.Ground.data }, { on := 9, ground := Go.Ground.data }], guard := none }) rfl (fun K hK => ?_) AllReadyH.nil
  go_simp
  have hS2 := hS1'.out _ hA2
  refine hK.out _ _ hS2 (fun hHeld => ?_)
  clear hK K
  (try simp only [Act.put, List.setIfInBounds_toArray, List.set_cons_zero, List.set_cons_succ])
  refine wpAnyH_ready (rs := [11]) (by kernel_rfl) (by simp) ?_
  refine AllReadyH.cons (o := { dst := some 16, op := Go.Op.call { callee := Go.Callee.value (Go.Operand.func 61), args := #[Go.Operand.tmp 15], argTypes := #[22] }, type := 3, pos := "l3_best.go:41", after := #[{ on := 10, ground := Go.Ground.data }, { on := 9, ground := Go.Ground.chain }], guard := none }) rfl (fun K hK => ?_) AllReadyH.nil
  go_simp
  refine (hOr'.out ()).mono ?_
  rintro _ _ ⟨rfl, rfl⟩
  refine hK.out _ _ hS2 (fun hHeld => ?_)
  clear hK K
  (try simp only [Act.put, List.setIfInBounds_toArray, List.set_cons_zero, List.set_cons_succ])
  refine wpAnyH_take (i := 12) (oi := { dst := some 4, op := Go.Op.assign (Go.Operand.tmp 16), type := 3, pos := "l3_best.go:41", after := #[{ on := 11, ground := Go.Ground.data }, { on := 11, ground := Go.Ground.chain }, { on := 0, ground := Go.Ground.phase }, { on := 1, ground := Go.Ground.phase }, { on := 2, ground := Go.Ground.phase }, { on := 3, ground := Go.Ground.phase }, { on := 4, ground := Go.Ground.phase }, { on := 5, ground := Go.Ground.phase }, { on := 6, ground := Go.Ground.phase }, { on := 7, ground := Go.Ground.phase }, { on := 8, ground := Go.Ground.phase }, { on := 9, ground := Go.Ground.phase }, { on := 10, ground := Go.Ground.phase }, { on := 11, ground := Go.Ground.phase }], guard := none }) (v := ?vvo12) rfl (by kernel_rfl) (by kernel_rfl) (by kernel_rfl) (fun _ _ _ h => h) (Or.inl ⟨by rfl, ?hyo12⟩) (by assumption) ?resto12
  case hyo12 =>
    intro w hSw
    (try dsimp only at hSw)
    go_simp
    (try with_reducible rfl)
  simp only [Act.put, List.setIfInBounds_toArray, List.set_cons_zero, List.set_cons_succ]
  refine wpAnyH_done (by kernel_rfl) ?_ _
  go_wp2
  go_ret
  exact ⟨rfl, hG.drew.alloc _⟩
end Go.Proofs.YtmmkggkneefhoabGreatDoor
