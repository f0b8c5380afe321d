/-
  Where the library's sort and comparison lie in this program. (By the shelf's own tool; the numbers are the seat's: tools/shelf.sh prints them anew.)
  Holds put in order by when they begin, then by train: what the program hands to the sort, and what it gets.
  The program's Order: what it answers. The model's Order, at every argument.
  The law of plans of their own order: walked.
  The statement of the law of plans of their own order: the row, and its card.
-/
import Derived.Test.YtelickcfodcmaaaGreatDoorProg
import Derived.Shelf.SlSortCmp.WholeK
import Derived.Shelf.SlicesG.Cmp
import Derived.Test.YtelickcfodcmaaaGreatDoorGF
import Derived.Test.YtelickcfodcmaaaGreatDoorApp
import Derived.Test.YtelickcfodcmaaaGreatDoorGH
import Derived.Shelf.SlSortCmp.NoneTotal
import Derived.Lib.OwnBridge
import Derived.Test.YtelickcfodcmaaaGreatDoorGE
import Derived.Test.YtelickcfodcmaaaGreatDoorGC
import Derived.Test.YtelickcfodcmaaaGreatDoorGG
import Derived.Test.YtelickcfodcmaaaGreatDoorGK
import Derived.Deep.RegionHeld3
import Derived.Test.YtelickcfodcmaaaGreatDoorGA
namespace Go.Proofs.YtelickcfodcmaaaGreatDoor
open Go.Shelf

def Tryz.sortHold_ren : Go.Shelf.Ren := ⟨fun | 6 => 34 | 15 => 66 | 14 => 65 | 28 => 103 | 29 => 104 | 20 => 95 | 21 => 96 | 22 => 97 | 23 => 98 | 24 => 99 | 25 => 100 | 26 => 101 | 27 => 102 | 46 => 138 | 47 => 139 | 48 => 140 | 49 => 141 | 50 => 142 | 57 => 168 | n => n, fun | 22 => 76 | 24 => 78 | 25 => 82 | 3 => 3 | 39 => 114 | 0 => 0 | 53 => 137 | 55 => 53 | 4 => 4 | 46 => 154 | 45 => 153 | 50 => 116 | 5 => 5 | 9 => 9 | 66 => 201 | 70 => 204 | 76 => 230 | 77 => 231 | n => n, fun | n => n⟩
theorem Tryz.sortHold : Go.Proofs.SlLaysF0.n6 Tryz.prog Tryz.sortHold_ren := {
  mixed := by kernel_rfl
  f6 := ⟨Tryz.f34.name, by decide, Tryz.func34.trans (congrArg some (by kernel_rfl))⟩
  f14 := ⟨Tryz.f65.name, by decide, Tryz.func65.trans (congrArg some (by kernel_rfl))⟩
  f15 := Tryz.func66.trans (congrArg some (by kernel_rfl))
  f20 := ⟨Tryz.f95.name, by decide, Tryz.func95.trans (congrArg some (by kernel_rfl))⟩
  f21 := ⟨Tryz.f96.name, by decide, Tryz.func96.trans (congrArg some (by kernel_rfl))⟩
  f22 := ⟨Tryz.f97.name, by decide, Tryz.func97.trans (congrArg some (by kernel_rfl))⟩
  f23 := ⟨Tryz.f98.name, by decide, Tryz.func98.trans (congrArg some (by kernel_rfl))⟩
  f24 := ⟨Tryz.f99.name, by decide, Tryz.func99.trans (congrArg some (by kernel_rfl))⟩
  f25 := ⟨Tryz.f100.name, by decide, Tryz.func100.trans (congrArg some (by kernel_rfl))⟩
  f26 := ⟨Tryz.f101.name, by decide, Tryz.func101.trans (congrArg some (by kernel_rfl))⟩
  f27 := ⟨Tryz.f102.name, by decide, Tryz.func102.trans (congrArg some (by kernel_rfl))⟩
  f28 := Tryz.func103.trans (congrArg some (by kernel_rfl))
  f29 := Tryz.func104.trans (congrArg some (by kernel_rfl))
  f46 := ⟨Tryz.f138.name, by decide, Tryz.func138.trans (congrArg some (by kernel_rfl))⟩
  f47 := Tryz.func139.trans (congrArg some (by kernel_rfl))
  f48 := Tryz.func140.trans (congrArg some (by kernel_rfl))
  f49 := ⟨Tryz.f141.name, by decide, Tryz.func141.trans (congrArg some (by kernel_rfl))⟩
  f50 := ⟨Tryz.f142.name, by decide, Tryz.func142.trans (congrArg some (by kernel_rfl))⟩
  f57 := ⟨Tryz.f168.name, by decide, Tryz.func168.trans (congrArg some (by kernel_rfl))⟩
  t0 := Tryz.underlying0
  a0 := Tryz.isAgg0
  z0 := Tryz.sizeOf0
  v0 := Tryz.zeroValue0
  t3 := Tryz.underlying3
  a3 := Tryz.isAgg3
  z3 := Tryz.sizeOf3
  v3 := Tryz.zeroValue3
  t4 := Tryz.underlying4
  a4 := Tryz.isAgg4
  z4 := Tryz.sizeOf4
  v4 := Tryz.zeroValue4
  t5 := Tryz.underlying5
  a5 := Tryz.isAgg5
  z5 := Tryz.sizeOf5
  v5 := Tryz.zeroValue5
  t9 := Tryz.underlying9
  a9 := Tryz.isAgg9
  z9 := Tryz.sizeOf9
  v9 := Tryz.zeroValue9
  t22 := Tryz.underlying76
  a22 := Tryz.isAgg76
  z22 := Tryz.sizeOf76
  v22 := Tryz.zeroValue76
  t25 := Tryz.underlying82
  a25 := Tryz.isAgg82
  z25 := Tryz.sizeOf82
  v25 := Tryz.zeroValue82
  t39 := Tryz.underlying114
  a39 := Tryz.isAgg114
  z39 := Tryz.sizeOf114
  v39 := Tryz.zeroValue114
  t45 := Tryz.underlying153
  a45 := Tryz.isAgg153
  z45 := Tryz.sizeOf153
  v45 := Tryz.zeroValue153
  t46 := Tryz.underlying154
  a46 := Tryz.isAgg154
  z46 := Tryz.sizeOf154
  v46 := Tryz.zeroValue154
  t50 := Tryz.underlying116
  a50 := Tryz.isAgg116
  z50 := Tryz.sizeOf116
  v50 := Tryz.zeroValue116
  t53 := Tryz.underlying137
  a53 := Tryz.isAgg137
  z53 := Tryz.sizeOf137
  v53 := Tryz.zeroValue137
  t55 := Tryz.underlying53
  a55 := Tryz.isAgg53
  z55 := Tryz.sizeOf53
  v55 := Tryz.zeroValue53
  t66 := Tryz.underlying201
  a66 := Tryz.isAgg201
  z66 := Tryz.sizeOf201
  v66 := Tryz.zeroValue201
  t70 := Tryz.underlying204
  a70 := Tryz.isAgg204
  z70 := Tryz.sizeOf204
  v70 := Tryz.zeroValue204
  t76 := Tryz.underlying230
  a76 := Tryz.isAgg230
  z76 := Tryz.sizeOf230
  v76 := Tryz.zeroValue230
  t77 := Tryz.underlying231
  a77 := Tryz.isAgg231
  z77 := Tryz.sizeOf231
  v77 := Tryz.zeroValue231 }
def Tryz.cmpInt_ren : Go.Shelf.Ren := ⟨fun | 5 => 37 | 7 => 67 | n => n, fun | 22 => 3 | 3 => 3 | 4 => 4 | n => n, fun | n => n⟩
theorem Tryz.cmpInt : Go.Proofs.SlLaysC2.n5 Tryz.prog Tryz.cmpInt_ren := {
  mixed := by kernel_rfl
  f5 := ⟨Tryz.f37.name, by decide, Tryz.func37.trans (congrArg some (by kernel_rfl))⟩
  f7 := ⟨Tryz.f67.name, by decide, Tryz.func67.trans (congrArg some (by kernel_rfl))⟩
  t3 := Tryz.underlying3
  a3 := Tryz.isAgg3
  z3 := Tryz.sizeOf3
  v3 := Tryz.zeroValue3
  t4 := Tryz.underlying4
  a4 := Tryz.isAgg4
  z4 := Tryz.sizeOf4
  v4 := Tryz.zeroValue4
  t22 := Tryz.underlying3
  a22 := Tryz.isAgg3
  z22 := Tryz.sizeOf3
  v22 := Tryz.zeroValue3 }
end Go.Proofs.YtelickcfodcmaaaGreatDoor

namespace Go.Proofs.YtelickcfodcmaaaGreatDoor
open Go.RowKit Go.Shelf Go.Lib Go.Sort

instance : Inhabited HoldD := ⟨⟨0, 0, 0⟩⟩
def encH (x : HoldD) : List Value := [.int .i64 x.tr, .int .i64 x.frm, .int .i64 x.free]
/-- the first that is not 0 -/
def orI (x y : Int) : Int := if x = 0 then y else x
def cfH (x y : HoldD) : Int := orI (Lib.compareInt x.frm y.frm) (Lib.compareInt x.tr y.tr)
theorem cfH_lt (x y : HoldD) : ltOf cfH x y = ltH x y := by
  unfold ltOf cfH orI ltH Lib.compareInt
  rcases Int.lt_trichotomy x.frm y.frm with h | h | h
  · have h1 : ¬ y.frm < x.frm := by omega
    simp [h]
  · rcases Nat.lt_trichotomy x.tr y.tr with k | k | k
    · have h1 : (x.tr : Int) < y.tr := by omega
      simp [h, k]
    · simp [h, k]
    · have h1 : (y.tr : Int) < x.tr := by omega
      have h2 : ¬ (x.tr : Int) < y.tr := by omega
      have h3 : ¬ x.tr < y.tr := by omega
      simp [h, h3, k]
  · have h1 : ¬ x.frm < y.frm := by omega
    have h2 : ¬ x.frm = y.frm := by omega
    simp [h, h1, h2]
theorem swoH : SWO (ltOf cfH) where
  irrefl x := by rw [cfH_lt]; simp [ltH]
  trans x y z h1 h2 := by rw [cfH_lt] at *; simp [ltH] at *; omega
  ntrans x y z h1 h2 := by rw [cfH_lt] at *; simp [ltH] at *; omega

theorem orInt_any (b cap : Nat) (x y : Int) (w : World) (h0 : w.cell? ⟨b, 0, none⟩ = some (.int .i64 x)) (h1 : w.cell? ⟨b, 1, none⟩ = some (.int .i64 y)) :
    Calls Tryz.prog 36 #[.slice (some ⟨b, 0, none⟩) 2 cap] w fun e w' => e = .returned (.int .i64 (orI x y)) ∧ w' = w := by
  go_enter Tryz.func36, Tryz.ntmps36
  go_wp2
  go_loopw [8] (fun ii wr => ∃ (k : Nat), k ≤ 2 ∧ ii = .int .i64 k ∧ (1 ≤ k → x = 0) ∧ (2 ≤ k → y = 0) ∧ wr = w) (fun ii _ => 2 - (intOf ii).toNat)
  case atStart => exact ⟨0, by omega, rfl, fun h => by omega, fun h => by omega, rfl⟩
  case round =>
    obtain ⟨k, hk, rfl, hx, hy, rfl⟩ := hrel
    match k, hk with
    | 0, _ =>
      by_cases e : x = 0
      · subst e
        go_wp2
        go_roundw
        case rel => exact ⟨1, by omega, by go_num, fun _ => (by first | rfl | trivial), fun h => by omega, (by first | rfl | trivial)⟩
        case measure => simp [intOf]
      · have e1 : orI x y = x := if_neg e
        have e2 : (x != 0) = true := by simpa using e
        go_wp2
        go_ret
        exact ⟨by rw [e1]; rfl, rfl⟩
    | 1, _ =>
      have e1 : orI x y = y := if_pos (hx (by omega))
      by_cases e : y = 0
      · subst e
        go_wp2
        go_roundw
        case rel => exact ⟨2, by omega, by go_num, fun _ => hx (by omega), fun _ => (by first | rfl | trivial), (by first | rfl | trivial)⟩
        case measure => simp [intOf]
      · have e2 : (y != 0) = true := by simpa using e
        go_wp2
        go_ret
        exact ⟨by rw [e1]; rfl, rfl⟩
    | 2, _ =>
      have e1 : orI x y = 0 := (if_pos (hx (by omega))).trans (hy (by omega))
      go_wp2
      go_ret
      exact ⟨by rw [e1]; rfl, rfl⟩

def Grew (w w' : World) : Prop := ∃ q os, w' = grow (w.drewN q) os
theorem Grew.refl (w : World) : Grew w w := ⟨0, #[], by rw [grow_empty]; rfl⟩
theorem Grew.alloc {w w' : World} (h : Grew w w') (o : Obj) : Grew w (w'.alloc o) := by
  obtain ⟨q, os, rfl⟩ := h
  exact ⟨q, os ++ #[o], by rw [alloc_eq_grow, grow_grow]⟩
theorem Grew.drew {w w' : World} (h : Grew w w') : Grew w w'.drew := by
  obtain ⟨q, os, rfl⟩ := h
  exact ⟨q + 1, os, by rw [drew_grow]; rfl⟩

set_option maxRecDepth 20000 in
set_option maxHeartbeats 4000000 in
theorem closureO_any (x y : HoldD) (w : World) : Calls Tryz.prog 35 #[.agg #[.int .i64 x.tr, .int .i64 x.frm, .int .i64 x.free], .agg #[.int .i64 y.tr, .int .i64 y.frm, .int .i64 y.free]] w fun e w' => e = .returned (.int .i64 (cfH x y)) ∧ Grew w w' := by
  have hcon := fun p q W' => AnyG.cmp_Compare_int Tryz.cmpInt p q W'
  change ∀ p q W', Calls Tryz.prog 37 _ _ _ at hcon
  obtain ⟨y0, y1, y2⟩ := new3 w (.int .i64 x.tr) (.int .i64 x.frm) (.int .i64 x.free) 78
  obtain ⟨z0, z1, z2⟩ := new3 (w.alloc (.cells #[.int .i64 x.tr, .int .i64 x.frm, .int .i64 x.free] 78)) (.int .i64 y.tr) (.int .i64 y.frm) (.int .i64 y.free) 78
  have hb := b1 (w.alloc (.cells #[.int .i64 x.tr, .int .i64 x.frm, .int .i64 x.free] 78)) (.cells #[.int .i64 y.tr, .int .i64 y.frm, .int .i64 y.free] 78)
  replace y0 := cellLater hb y0
  replace y1 := cellLater hb y1
  rw [World.size_alloc] at z0 z1 z2
  have hG : Grew w ((w.alloc (.cells #[.int .i64 x.tr, .int .i64 x.frm, .int .i64 x.free] 78)).alloc (.cells #[.int .i64 y.tr, .int .i64 y.frm, .int .i64 y.free] 78)) := ((Grew.refl w).alloc _).alloc _
  have hcf : cfH x y = orI (Lib.compareInt x.frm y.frm) (Lib.compareInt x.tr y.tr) := rfl
  rw [hcf]
  clear hcf
  generalize hp : Lib.compareInt x.frm y.frm = p
  generalize hq : Lib.compareInt (x.tr : Int) (y.tr : Int) = q
  have hc1 := fun W' => hcon x.frm y.frm W'
  have hc2 := fun W' => hcon x.tr y.tr W'
  rw [hp] at hc1
  rw [hq] at hc2
  clear hp hq hcon
  go_enter Tryz.func35, Tryz.ntmps35
  go_wp2
  refine nameW fun W hW => ?_
  rw [← hW] at hG y0 y1 z0 z1 hb
  clear hW y2 z2
  have hS0 : W.drew.cell? ⟨w.heap.size, 0, none⟩ = some (.int .i64 x.tr) ∧ W.drew.cell? ⟨w.heap.size, 1, none⟩ = some (.int .i64 x.frm) ∧ W.drew.cell? ⟨w.heap.size + 1, 0, none⟩ = some (.int .i64 y.tr) ∧ W.drew.cell? ⟨w.heap.size + 1, 1, none⟩ = some (.int .i64 y.frm) := ⟨y0, y1, z0, z1⟩
  have hS1 : ∀ V : World, Below W.drew.heap.size W.drew V → V.cell? ⟨w.heap.size, 0, none⟩ = some (.int .i64 x.tr) ∧ V.cell? ⟨w.heap.size, 1, none⟩ = some (.int .i64 x.frm) ∧ V.cell? ⟨w.heap.size + 1, 0, none⟩ = some (.int .i64 y.tr) ∧ V.cell? ⟨w.heap.size + 1, 1, none⟩ = some (.int .i64 y.frm) := fun V hV => ⟨cellLater hV hS0.1, cellLater hV hS0.2.1, cellLater hV hS0.2.2.1, cellLater hV hS0.2.2.2⟩
  have hA2 := b1 W.drew (.cells #[.int .i64 p, .int .i64 q] 3)
  obtain ⟨m0, m1⟩ := new2 W.drew (.int .i64 p) (.int .i64 q) 3
  have hOr := fun _ : Unit => orInt_any W.drew.heap.size 2 p q _ m0 m1
  have hS1' : Hid _ := hS1
  have hOr' : Hid _ := hOr
  have hc1' : Hid _ := hc1
  have hc2' : Hid _ := hc2
  clear hS1 hOr hc1 hc2 y0 y1 z0 z1 m0 m1
  refine wp_region_held_drew (S := (fun w' => w'.cell? ⟨w.heap.size, 0, none⟩ = some (.int .i64 x.tr) ∧ w'.cell? ⟨w.heap.size, 1, none⟩ = some (.int .i64 x.frm) ∧ w'.cell? ⟨w.heap.size + 1, 0, none⟩ = some (.int .i64 y.tr) ∧ w'.cell? ⟨w.heap.size + 1, 1, none⟩ = some (.int .i64 y.frm))) (by kernel_rfl) hS0 (fun hHeld => ?_)
  refine wpAnyH_take (i := 0) (oi := { dst := some 5, op := Go.Op.fieldAddr 78 (Go.Operand.tmp 2) 1, type := 0, pos := "l3_best.go:41", after := #[], guard := none }) (v := ?vvo0) rfl (by kernel_rfl) (by kernel_rfl) (by kernel_rfl) (fun _ _ _ h => h) (Or.inl ⟨by rfl, ?hyo0⟩) (by assumption) ?resto0
  case hyo0 =>
    intro w hSw
    (try dsimp only at hSw)
    go_simp
    (try with_reducible rfl)
  simp only [Act.put, List.setIfInBounds_toArray, List.set_cons_zero, List.set_cons_succ]
  refine wpAnyH_take (i := 1) (oi := { dst := some 6, op := Go.Op.load 3 (Go.Operand.tmp 5), type := 3, pos := "l3_best.go:41", after := #[{ on := 0, ground := Go.Ground.data }], guard := none }) (v := ?vvo1) rfl (by kernel_rfl) (by kernel_rfl) (by kernel_rfl) (fun _ _ _ h => h) (Or.inl ⟨by rfl, ?hyo1⟩) (by assumption) ?resto1
  case hyo1 =>
    intro w hSw
    (try dsimp only at hSw)
    go_simp
    (try with_reducible rfl)
  simp only [Act.put, List.setIfInBounds_toArray, List.set_cons_zero, List.set_cons_succ]
  refine wpAnyH_take (i := 2) (oi := { dst := some 7, op := Go.Op.fieldAddr 78 (Go.Operand.tmp 3) 1, type := 0, pos := "l3_best.go:41", after := #[], guard := none }) (v := ?vvo2) rfl (by kernel_rfl) (by kernel_rfl) (by kernel_rfl) (fun _ _ _ h => h) (Or.inl ⟨by rfl, ?hyo2⟩) (by assumption) ?resto2
  case hyo2 =>
    intro w hSw
    (try dsimp only at hSw)
    go_simp
    (try with_reducible rfl)
  simp only [Act.put, List.setIfInBounds_toArray, List.set_cons_zero, List.set_cons_succ]
  refine wpAnyH_take (i := 3) (oi := { dst := some 8, op := Go.Op.load 3 (Go.Operand.tmp 7), type := 3, pos := "l3_best.go:41", after := #[{ on := 2, ground := Go.Ground.data }], guard := none }) (v := ?vvo3) rfl (by kernel_rfl) (by kernel_rfl) (by kernel_rfl) (fun _ _ _ h => h) (Or.inl ⟨by rfl, ?hyo3⟩) (by assumption) ?resto3
  case hyo3 =>
    intro w hSw
    (try dsimp only at hSw)
    go_simp
    (try with_reducible rfl)
  simp only [Act.put, List.setIfInBounds_toArray, List.set_cons_zero, List.set_cons_succ]
  refine wpAnyH_take (i := 5) (oi := { dst := some 10, op := Go.Op.fieldAddr 78 (Go.Operand.tmp 2) 0, type := 0, pos := "l3_best.go:41", after := #[], guard := none }) (v := ?vvo5) rfl (by kernel_rfl) (by kernel_rfl) (by kernel_rfl) (fun _ _ _ h => h) (Or.inl ⟨by rfl, ?hyo5⟩) (by assumption) ?resto5
  case hyo5 =>
    intro w hSw
    (try dsimp only at hSw)
    go_simp
    (try with_reducible rfl)
  simp only [Act.put, List.setIfInBounds_toArray, List.set_cons_zero, List.set_cons_succ]
  refine wpAnyH_take (i := 6) (oi := { dst := some 11, op := Go.Op.load 3 (Go.Operand.tmp 10), type := 3, pos := "l3_best.go:41", after := #[{ on := 5, ground := Go.Ground.data }], guard := none }) (v := ?vvo6) rfl (by kernel_rfl) (by kernel_rfl) (by kernel_rfl) (fun _ _ _ h => h) (Or.inl ⟨by rfl, ?hyo6⟩) (by assumption) ?resto6
  case hyo6 =>
    intro w hSw
    (try dsimp only at hSw)
    go_simp
    (try with_reducible rfl)
  simp only [Act.put, List.setIfInBounds_toArray, List.set_cons_zero, List.set_cons_succ]
  refine wpAnyH_take (i := 7) (oi := { dst := some 12, op := Go.Op.fieldAddr 78 (Go.Operand.tmp 3) 0, type := 0, pos := "l3_best.go:41", after := #[], guard := none }) (v := ?vvo7) rfl (by kernel_rfl) (by kernel_rfl) (by kernel_rfl) (fun _ _ _ h => h) (Or.inl ⟨by rfl, ?hyo7⟩) (by assumption) ?resto7
  case hyo7 =>
    intro w hSw
    (try dsimp only at hSw)
    go_simp
    (try with_reducible rfl)
  simp only [Act.put, List.setIfInBounds_toArray, List.set_cons_zero, List.set_cons_succ]
  refine wpAnyH_take (i := 8) (oi := { dst := some 13, op := Go.Op.load 3 (Go.Operand.tmp 12), type := 3, pos := "l3_best.go:41", after := #[{ on := 7, ground := Go.Ground.data }], guard := none }) (v := ?vvo8) rfl (by kernel_rfl) (by kernel_rfl) (by kernel_rfl) (fun _ _ _ h => h) (Or.inl ⟨by rfl, ?hyo8⟩) (by assumption) ?resto8
  case hyo8 =>
    intro w hSw
    (try dsimp only at hSw)
    go_simp
    (try with_reducible rfl)
  simp only [Act.put, List.setIfInBounds_toArray, List.set_cons_zero, List.set_cons_succ]
  refine wpAnyH_ready (rs := [4]) (by kernel_rfl) (by simp) ?_
  refine AllReadyH.cons (o := { dst := some 9, op := Go.Op.call { callee := Go.Callee.value (Go.Operand.func 37), args := #[Go.Operand.tmp 6, Go.Operand.tmp 8], argTypes := #[3, 3] }, type := 3, pos := "l3_best.go:41", after := #[{ on := 1, ground := Go.Ground.data }, { on := 3, ground := Go.Ground.data }], guard := none }) rfl (fun K hK => ?_) AllReadyH.nil
  go_simp
  refine (hc1'.out _).mono ?_
  rintro _ _ ⟨rfl, rfl⟩
  refine hK.out _ _ hS0 (fun hHeld => ?_)
  clear hK K
  (try simp only [Act.put, List.setIfInBounds_toArray, List.set_cons_zero, List.set_cons_succ])
  refine wpAnyH_ready (rs := [9]) (by kernel_rfl) (by simp) ?_
  refine AllReadyH.cons (o := { dst := some 14, op := Go.Op.call { callee := Go.Callee.value (Go.Operand.func 37), args := #[Go.Operand.tmp 11, Go.Operand.tmp 13], argTypes := #[3, 3] }, type := 3, pos := "l3_best.go:41", after := #[{ on := 6, ground := Go.Ground.data }, { on := 8, ground := Go.Ground.data }, { on := 4, ground := Go.Ground.chain }], guard := none }) rfl (fun K hK => ?_) AllReadyH.nil
  go_simp
  refine (hc2'.out _).mono ?_
  rintro _ _ ⟨rfl, rfl⟩
  refine hK.out _ _ hS0 (fun hHeld => ?_)
  clear hK K
  (try simp only [Act.put, List.setIfInBounds_toArray, List.set_cons_zero, List.set_cons_succ])
  refine wpAnyH_ready (rs := [10]) (by kernel_rfl) (by simp) ?_
  refine AllReadyH.cons (o := { dst := some 15, op := Go.Op.buildSlice 23 2 #[(0, Go.Operand.tmp 9), (1, Go.Operand.tmp 14)], type := 23, pos := "l3_best.go:41", after := #[{ on := 4, ground := Go.Ground.data }, { on := 9, ground := Go.Ground.data }], guard := none }) rfl (fun K hK => ?_) AllReadyH.nil
  go_simp
  have hS2 := hS1'.out _ hA2
  refine hK.out _ _ hS2 (fun hHeld => ?_)
  clear hK K
  (try simp only [Act.put, List.setIfInBounds_toArray, List.set_cons_zero, List.set_cons_succ])
  refine wpAnyH_ready (rs := [11]) (by kernel_rfl) (by simp) ?_
  refine AllReadyH.cons (o := { dst := some 16, op := Go.Op.call { callee := Go.Callee.value (Go.Operand.func 36), args := #[Go.Operand.tmp 15], argTypes := #[23] }, type := 3, pos := "l3_best.go:41", after := #[{ on := 10, ground := Go.Ground.data }, { on := 9, ground := Go.Ground.chain }], guard := none }) rfl (fun K hK => ?_) AllReadyH.nil
  go_simp
  refine (hOr'.out ()).mono ?_
  rintro _ _ ⟨rfl, rfl⟩
  refine hK.out _ _ hS2 (fun hHeld => ?_)
  clear hK K
  (try simp only [Act.put, List.setIfInBounds_toArray, List.set_cons_zero, List.set_cons_succ])
  refine wpAnyH_take (i := 12) (oi := { dst := some 4, op := Go.Op.assign (Go.Operand.tmp 16), type := 3, pos := "l3_best.go:41", after := #[{ on := 11, ground := Go.Ground.data }, { on := 11, ground := Go.Ground.chain }, { on := 0, ground := Go.Ground.phase }, { on := 1, ground := Go.Ground.phase }, { on := 2, ground := Go.Ground.phase }, { on := 3, ground := Go.Ground.phase }, { on := 4, ground := Go.Ground.phase }, { on := 5, ground := Go.Ground.phase }, { on := 6, ground := Go.Ground.phase }, { on := 7, ground := Go.Ground.phase }, { on := 8, ground := Go.Ground.phase }, { on := 9, ground := Go.Ground.phase }, { on := 10, ground := Go.Ground.phase }, { on := 11, ground := Go.Ground.phase }], guard := none }) (v := ?vvo12) rfl (by kernel_rfl) (by kernel_rfl) (by kernel_rfl) (fun _ _ _ h => h) (Or.inl ⟨by rfl, ?hyo12⟩) (by assumption) ?resto12
  case hyo12 =>
    intro w hSw
    (try dsimp only at hSw)
    go_simp
    (try with_reducible rfl)
  simp only [Act.put, List.setIfInBounds_toArray, List.set_cons_zero, List.set_cons_succ]
  refine wpAnyH_done (by kernel_rfl) ?_ _
  go_wp2
  go_ret
  exact ⟨rfl, hG.drew.alloc _⟩
end Go.Proofs.YtelickcfodcmaaaGreatDoor

namespace Go.Proofs.YtelickcfodcmaaaGreatDoor
open Go.RowKit Go.Shelf Go.Lib Go.Sort

theorem holdCells_get (L : List HoldD) (j : Nat) (hj : j < L.length * 3) : (holdCells L)[j]? = some (encH (L.toArray[j / 3]!))[j % 3]! := by
  have hr : j / 3 < L.length := by omega
  obtain ⟨h0, h1, h2⟩ := holdCells_at L (j / 3) L[j / 3] (List.getElem?_eq_getElem hr)
  have e : L.toArray[j / 3]! = L[j / 3] := by simp [getElem!_pos, hr]
  rw [e]
  have hm : j % 3 = 0 ∨ j % 3 = 1 ∨ j % 3 = 2 := by omega
  rcases hm with hm | hm | hm
  · have : j = j / 3 * 3 := by omega
    rw [hm, show (holdCells L)[j]? = (holdCells L)[j / 3 * 3]? from congrArg (fun t => (holdCells L)[t]?) this, h0]; rfl
  · have : j = j / 3 * 3 + 1 := by omega
    rw [hm, show (holdCells L)[j]? = (holdCells L)[j / 3 * 3 + 1]? from congrArg (fun t => (holdCells L)[t]?) this, h1]; rfl
  · have : j = j / 3 * 3 + 2 := by omega
    rw [hm, show (holdCells L)[j]? = (holdCells L)[j / 3 * 3 + 2]? from congrArg (fun t => (holdCells L)[t]?) this, h2]; rfl
theorem holdsK_of {W : World} {b0 g n cap : Nat} {L : List HoldD} (hn : L.length = n) (h : W.ownsRow b0 78 3 (.slice (some ⟨g, 0, none⟩) n cap) n (holdCells L)) : HoldsK encH 3 W g 0 L.toArray := by
  intro j hj
  rw [size_flatK] at hj
  have hj' : j < L.length * 3 := by simpa using hj
  rw [get_flatK _ _ _ _ hj, Nat.zero_add, h.cellAt j (by omega), holdCells_get L j hj']
  exact ⟨rfl, h.frozenAt j⟩
theorem below_grow_os {B : Nat} {A w : World} (h : Below B A w) (hB : B ≤ w.heap.size) (os : Array Obj) : Below B A (grow w os) :=
  ⟨h.os, h.tape, h.output, by have := h.size; simp [grow]; omega, fun k hk => by
    have : (grow w os).heap[k]? = w.heap[k]? := by simp only [grow]; exact Array.getElem?_append_left (by omega)
    rw [this]; exact h.block k hk⟩

/-- the sort, as the program calls it -/
theorem sortHold_any (b0 : Nat) (v : Value) (L : List HoldD) (w : World) (hb : b0 ≤ w.heap.size) (hl : L.length ≤ 1000) (ho : w.ownsRow b0 78 3 v L.length (holdCells L)) :
    Calls Tryz.prog 34 #[v, .func (.func 35) #[] #[]] w fun e w' => e = .returned (.tuple #[]) ∧ (∃ M : List HoldD, M.Perm L ∧ M.Pairwise (fun x y => ltH y x = false) ∧ IsHolds w' v M) ∧ Below b0 w w' := by
  rcases ho.2 with ⟨rfl, h0⟩ | ⟨g, cap, cur, rfl, hbg, hgg, _⟩
  · obtain rfl : L = [] := List.eq_nil_of_length_eq_zero h0
    have hcon := AnyF.slices_SortFunc_none Tryz.sortHold none 0 (.func (.func 35) #[] #[]) w
    change Calls Tryz.prog 34 _ _ _ at hcon
    refine hcon.mono ?_
    rintro e w' ⟨rfl, rfl⟩
    exact ⟨rfl, ⟨[], List.Perm.refl _, List.Pairwise.nil, ⟨none, 0, rfl, fun r h hr => by simp at hr⟩⟩, Below.refl _ _⟩
  · have eg : ∀ args w, (callFunc 35 args).run Tryz.prog w = .ok (.enter 35 args) w := enters_of Tryz.func35 (by kernel_rfl) rfl
    have hH := holdsK_of (L := L) rfl ho
    have hcon := AnyQ.slices_SortFunc Tryz.sortHold 3 Tryz.isAgg78 Tryz.sizeOf78 encH (fun _ => rfl) (fun x u hu => by simp [encH] at hu; rcases hu with rfl | rfl | rfl <;> rfl) cfH swoH 35 #[] g 0 cap L.toArray w eg (fun _ _ _ _ x y => closureO_any x y _) hH (ho.lt g rfl).2 (by simp; omega)
    change Calls Tryz.prog 34 _ _ _ at hcon
    simp only [List.size_toArray] at hcon
    refine hcon.mono ?_
    rintro e w' ⟨rfl, d', n, os, hp, hs, rfl⟩
    have hgw := (ho.lt g rfl).2
    have hds : d'.size = L.length := by have := hp.1; simpa using this
    have hK : HoldsK encH 3 (sortWorldK encH 3 w g 0 n d' os) g 0 d' := by
      unfold sortWorldK
      refine holdsK_grow encH 3 _ os g 0 d' ?_ (holdsK_putRowK encH 3 _ g 0 L.toArray d' (holdsK_ahead encH 3 w n g 0 _ hH) (by simpa using hds))
      have : (putRowK encH 3 (Sort.ahead w n) g 0 d').heap.size = w.heap.size := by simp [putRowK, putRow, mapBlock, Sort.ahead]
      omega
    have hBl : Below b0 w (sortWorldK encH 3 w g 0 n d' os) := by
      unfold sortWorldK putRowK
      refine below_grow_os (below_putRow (Below.refl b0 w) hbg) ?_ os
      have : (putRow id (Sort.ahead w n) g 0 (flatK encH 3 d')).heap.size = w.heap.size := by simp [putRow, mapBlock, Sort.ahead]
      omega
    refine ⟨rfl, ⟨d'.toList, ?_, ?_, ?_⟩, hBl⟩
    · have h3 := hp.2.2
      have e1 : d'.extract 0 L.length = d' := by rw [← hds]; simp
      have e2 : L.toArray.extract 0 L.length = L.toArray := by simp
      rw [e1, e2] at h3
      exact h3
    · rw [List.pairwise_iff_getElem]
      intro i j hi hj hij
      have := hs i j (Nat.zero_le _) hij (by simpa [hds] using hj)
      rw [cfH_lt] at this
      have hi' : i < d'.size := by simpa using hi
      have hj' : j < d'.size := by simpa using hj
      rw [getElem!_pos d' j hj', getElem!_pos d' i hi'] at this
      simpa using this
    · refine ⟨_, cap, by simp [hds], fun r x hx => ⟨g, 0, rfl, ?_⟩⟩
      have hr : r < d'.size := by
        rcases Nat.lt_or_ge r d'.size with h | h
        · exact h
        · rw [List.getElem?_eq_none (by simpa using h)] at hx; cases hx
      have hx' : d'[r]! = x := by
        have : d'.toList[r]? = some d'[r] := by simp [hr]
        rw [hx] at this
        cases this
        simp [getElem!_pos, hr]
      have c0 := (hK.cell hr (c := 0) (by omega)).1
      have c1 := (hK.cell hr (c := 1) (by omega)).1
      have c2 := (hK.cell hr (c := 2) (by omega)).1
      rw [hx'] at c0 c1 c2
      exact ⟨c0, c1, c2⟩

theorem strict_of {len np : Nat} {f : Nat → TrainD} {P : Nat → RowD} {g : Nat → Int} {gap : Int} (hz : clashOf len g gap np f np P = (0, 0, 0, 0)) : ∀ i, i < np → ∀ k, k + 1 < (P i).n → (P i).s k < (P i).s (k + 1) := by
  obtain ⟨hF, hS⟩ := clashOf_ok hz
  have hR := rightL_of (faultOf_snd hF)
  have hQ := rightP_of hS
  intro i hi k hk
  rw [hQ.row i hi] at hk
  have hready : ∀ i, i < np → ∀ k, k < (f i).nl → readyOf f P i k ≤ (P i).s k := by
    intro i hi k hk
    rcases Int.lt_or_le ((P i).s k) (readyOf f P i k) with h | h
    · exfalso
      unfold clashOf at hz
      rw [if_pos ⟨hF, hS⟩] at hz
      split at hz
      · simp at hz
      · rename_i hn
        have := first2_all hn i hi k hk
        simp only [decide_eq_true_eq] at this
        omega
    · exact h
  have h1 := hready i hi (k + 1) hk
  obtain ⟨l0, l1, l2, l3⟩ := (hR.train i hi).leg k (by omega)
  obtain ⟨m0, m1, m2, m3⟩ := (hR.train i hi).leg (k + 1) hk
  simp only [readyOf] at h1
  omega

structure Begun (W wr : World) (v : Value) (L : List HoldD) : Prop where
  own : wr.ownsRow W.heap.size 78 3 v L.length (holdCells L)
  below : Below W.heap.size W wr
theorem Begun.one {W wr w' : World} {v v' : Value} {L : List HoldD} {m : HoldD} (h : Begun W wr v L) (ho : w'.ownsRow W.heap.size 78 3 v' (L.length + 1) (holdCells L ++ [.int .i64 m.tr, .int .i64 m.frm, .int .i64 m.free])) (hg : wr.grownBy w' v.ownBlock) : Begun W w' v' (L ++ [m]) :=
  ⟨by rw [holdCells_snoc, List.length_append]; exact ho, h.below.grown hg h.below.size (fun k hk => (h.own.lt k hk).1)⟩
theorem Begun.later {W wr w' : World} {v : Value} {L : List HoldD} (h : Begun W wr v L) (hB : Below wr.heap.size wr w') : Begun W w' v L := ⟨ownsRow_later h.own hB, Below.join h.below (Nat.le_refl _) hB⟩

theorem rowSum_mono (P : Nat → RowD) : ∀ {i n : Nat}, i ≤ n → rowSum P i ≤ rowSum P n
  | i, 0, h => by obtain rfl : i = 0 := (by omega); exact Nat.le_refl _
  | i, n + 1, h => by
    by_cases e : i = n + 1
    · subst e; exact Nat.le_refl _
    · have := rowSum_mono P (i := i) (n := n) (by omega); simp only [rowSum]; omega

set_option maxRecDepth 20000 in
set_option maxHeartbeats 8000000 in
theorem implOrder_any (a : Option Addr) (len cap : Nat) (g : Nat → Int) (gap : Int) (a' : Option Addr) (len' cap' : Nat) (f : Nat → TrainD) (c : Option Addr) (np nc : Nat) (P : Nat → RowD) (w : World) (hl : len ≤ 1048576) (hl' : len' ≤ 1048576) (hml : ∀ j, j < len' → (f j).nl ≤ 1048576) (hp : np ≤ 1048576) (hmp : ∀ j, j < np → (P j).n ≤ 1048576)
    (hI : IsInts 0 w.heap.size w a len g) (hT : IsTrains 0 w.heap.size w a' len' f) (hP : IsRows 0 w.heap.size w c np P) (hC : Caps w c np) (hg : w.cell? ⟨0, 0, none⟩ = some (.iface 234 (.agg #[.pointer (some ⟨1, 165, none⟩)]))) :
    Calls Tryz.prog 9 #[.agg #[.slice a len cap, .int .i64 gap, .slice a' len' cap'], .agg #[.slice c np nc]] w fun e w' => (∃ v, e = .returned v ∧ w'.ownsRow w.heap.size 3 1 v (orderOf len g gap len' f np P).length (natCells (orderOf len g gap len' f np P))) ∧ Below w.heap.size w w' := by
  obtain ⟨y0, y1, y2, u0⟩ := box2 w a len cap gap a' len' cap' c np nc 26 30
  have hN := b2 w (.cells #[.slice a len cap, .int .i64 gap, .slice a' len' cap'] 26) (.cells #[.slice c np nc] 30)
  have hCh := implCheck_any a len cap g gap a' len' cap' f c np nc P _ hl hl' hml hp hmp (hI.grow hN) (hT.grow hN) (hP.grow hN) (hC.later hN) (cellLater hN hg)
  rcases clashOf_or len g gap len' f np P with hz | hz
  · have hA : orderOf len g gap len' f np P = outAt P len' (rowSum P len') := by unfold orderOf; rw [if_pos hz]
    obtain ⟨hF, hS⟩ := clashOf_ok hz
    have hF0 := faultOf_snd hF
    have hR := rightL_of hF0
    have hQ := rightP_of hS
    obtain rfl : np = len' := hQ.np
    have hst := strict_of hz
    rw [hA]
    rw [hz] at hCh
    dsimp only [clashV] at hCh
    clear hA hz hF hF0 hS
    have htr := hR.tr
    obtain ⟨i0, hi, hz0, hz1, hz2⟩ := info_parts Tryz.infoHold
    obtain ⟨i1, gi, gz0, gz1, gz2⟩ := info_parts Tryz.infoInt
    have hn10 : ∀ i, i < np → (P i).n ≤ 10 := fun i hi => by rw [hQ.row i hi]; exact (hR.train i hi).nl
    have hsum := rowSum_le (P := P) np hn10
    have hsumi := fun i (h : i ≤ np) => rowSum_mono P h
    go_enter Tryz.func9, Tryz.ntmps9
    go_wp2_with (go_at_call 7; refine hCh.mono ?_; rintro _ W ⟨rfl, hB2⟩; have hB := Below.join hN (Nat.le_refl _) hB2; have x3 := cellLater hB2 u0)
    clear hB2 hCh y0 y1 y2 u0 hN
    go_loopw [5, 21] (fun v ii wr => ∃ (i : Nat), i ≤ np ∧ ii = .int .i64 i ∧ Begun W wr v (begunAll P i)) (fun _ ii _ => np - (intOf ii).toNat)
    case atStart => exact ⟨0, Nat.zero_le _, rfl, World.ownsRow_nil _ _ _ _, Below.refl _ _⟩
    case round =>
      obtain ⟨i, hin, rfl, hG⟩ := hrel
      by_cases hlt : i < np
      · have hi' : (i : Int) < (np : Int) := by omega
        have hi0' : (0 : Int) ≤ (i : Int) := by omega
        have hni := hn10 i hlt
        have hli : (begunAll P i).length ≤ 50 := by rw [begunAll_len]; have := hsumi i hin; omega
        obtain ⟨bp, op, lp, lpc, rfl, _, hbp, p0, hinr, _⟩ := hP i hlt
        have p1 := cellLater (Below.join hB (Nat.le_refl _) hG.below) p0
        go_wp2
        clear p1
        go_loopw [5, 28] (fun v kk wr2 => ∃ (k : Nat), k ≤ (P i).n ∧ kk = .int .i64 k ∧ Begun W wr2 v (begunAll P i ++ begunRow P i k)) (fun _ kk _ => (P i).n - (intOf kk).toNat)
        case atStart => exact ⟨0, Nat.zero_le _, rfl, by simpa [begunRow] using hG⟩
        case round =>
          obtain ⟨k, hk, rfl, hG2⟩ := hrel
          by_cases hklt : k < (P i).n
          · have hk' : (k : Int) < ((P i).n : Int) := by omega
            have hk0 : (0 : Int) ≤ (k : Int) := by omega
            have hLk : (begunAll P i ++ begunRow P i k).length ≤ 100 := by rw [List.length_append, begunRow_len]; omega
            have hBr := Below.join hB (Nat.le_refl _) hG2.below
            obtain ⟨bi, oi, rfl, _, hbi, q0⟩ := hinr k hklt
            replace q0 := cellLater hBr q0
            have hE' : begunAll P i ++ begunRow P i (k + 1) = (begunAll P i ++ begunRow P i k) ++ [⟨i, (P i).s k, 0⟩] := by simp [begunRow]
            have hE : Hid _ := hE'
            clear hE'
            generalize begunAll P i ++ begunRow P i k = L at hG2 hLk hE
            have hsz := hG2.below.size
            go_wp2_with (at_builtin; refine wpList_append_own _ rfl _ _ 76 rfl W.heap.size 78 i0 _ 3 24 Tryz.underlying76 hi hz0 hz1 hz2 rfl (by decide) _ _ _ rfl (hG2.own.alloc _) ⟨wr.heap.size, 0, none⟩ 1 1 [.int .i64 i, .int .i64 ((P i).s k), .int .i64 0] rfl rfl cells3_lie one3 (by unfold maxLen; omega) (by omega) (by simp only [World.size_alloc]; omega) ?_)
            intro v' w6 hown' hgrow _
            have hG3 := (hG2.later (b1 wr (.cells #[.int .i64 i, .int .i64 ((P i).s k), .int .i64 0] 78))).one (m := ⟨i, (P i).s k, 0⟩) hown' hgrow
            clear hown' hgrow
            go_wp2
            go_roundw
            case rel => exact ⟨k + 1, by omega, by go_num, by rw [hE.out]; exact hG3⟩
            case measure => simp [intOf]; omega
          · obtain rfl : k = (P i).n := by omega
            go_wp2
            go_roundw
            case rel => exact ⟨i + 1, by omega, by go_num, by simpa only [begunAll] using hG2⟩
            case measure => simp [intOf]; omega
      · obtain rfl : i = np := by omega
        have hll : (begunAll P i).length ≤ 50 := by rw [begunAll_len]; omega
        have hSo := sortHold_any W.heap.size u5 (begunAll P i) wr hG.below.size (by omega) hG.own
        go_wp2_with (go_at_call 34; refine hSo.mono ?_; rintro _ W2 ⟨rfl, ⟨M, hPm, hSd, hM⟩, hB6⟩; obtain ⟨am, cm, rfl, hMc⟩ := hM)
        have hfin := out_eq (P := P) (n := i) hst hPm hSd
        have hMl : M.length = (begunAll P i).length := hPm.length_eq
        have hMlen : M.length = rowSum P i := by rw [hMl, begunAll_len]
        have hM50 : M.length ≤ 50 := by omega
        have hfin' : Hid _ := hfin
        have hMlen' : Hid _ := hMlen
        have hBW2 : Below w.heap.size w W2 := Below.join hB (Nat.le_refl _) (hG.below.trans hB6)
        have hMc' : Hid _ := hMc
        clear hfin hMlen hMl hSo hG hPm hSd hB6 hMc
        generalize hm : M.length = mm at hM50
        have hm' : Hid _ := hm
        go_wp2
        go_loopw [10, 44] (fun v kk wr => ∃ (k : Nat), k ≤ mm ∧ kk = .int .i64 k ∧ wr.ownsRow W2.heap.size 3 1 v k (natCells ((M.take k).map HoldD.tr)) ∧ Below W2.heap.size W2 wr) (fun _ kk _ => mm - (intOf kk).toNat)
        case atStart => exact ⟨0, Nat.zero_le _, rfl, World.ownsRow_nil _ _ _ _, Below.refl _ _⟩
        case round =>
          obtain ⟨k, hk, rfl, hown, hBk⟩ := hrel
          by_cases hklt : k < mm
          · have hk' : (k : Int) < (mm : Int) := by omega
            have hk0 : (0 : Int) ≤ (k : Int) := by omega
            have hMk : M[k]? = some (M[k]'(by have := hm'.out; omega)) := List.getElem?_eq_getElem _
            generalize M[k]'(by have := hm'.out; omega) = x at hMk
            obtain ⟨gm, om, rfl, c0, c1, c2⟩ := hMc'.out k x hMk
            replace c0 := cellLater hBk c0
            replace c1 := cellLater hBk c1
            replace c2 := cellLater hBk c2
            have hE' : natCells ((M.take (k + 1)).map HoldD.tr) = natCells ((M.take k).map HoldD.tr) ++ [.int .i64 (x.tr : Int)] := by rw [List.take_add_one, hMk]; simp [natCells]
            have hE : Hid _ := hE'
            clear hE' hMk
            have hA5 := b1 wr (.cells #[.int .i64 x.tr, .int .i64 x.frm, .int .i64 x.free] 78)
            obtain ⟨n0, n1, n2⟩ := new3 wr (.int .i64 x.tr) (.int .i64 x.frm) (.int .i64 x.free) 78
            have hsz := hBk.size
            have hownA := hown.alloc (.cells #[.int .i64 x.tr, .int .i64 x.frm, .int .i64 x.free] 78)
            go_wp2_with (at_builtin; refine wpList_append_own _ rfl _ _ 23 rfl W2.heap.size 3 i1 _ 1 8 Tryz.underlying23 gi gz0 gz1 gz2 rfl (by decide) _ _ _ rfl (hownA.alloc _) ⟨wr.heap.size + 1, 0, none⟩ 1 1 [.int .i64 x.tr] rfl rfl (fun j u hj => by have h := cells1_lie (W := wr.alloc (.cells #[.int .i64 x.tr, .int .i64 x.frm, .int .i64 x.free] 78)) (x := .int .i64 x.tr) (t := 3) j u hj; rw [World.size_alloc] at h; exact h) one1 (by unfold maxLen; omega) (by omega) (by simp only [World.size_alloc]; omega) ?_)
            intro v' w6 hown' hgrow _
            have hBk6 : Below W2.heap.size W2 w6 := (Below.join (Below.join hBk (Nat.le_refl _) hA5) (Nat.le_refl _) (b1 _ (.cells #[.int .i64 x.tr] 3))).grown hgrow (by simp only [World.size_alloc]; omega) (fun j hj => (hown.lt j hj).1)
            clear hgrow hown hownA
            go_wp2
            go_roundw
            case rel => exact ⟨k + 1, by omega, by go_num, by rw [hE.out, List.map_take]; exact hown', hBk6⟩
            case measure => simp [intOf]; omega
          · obtain rfl : k = mm := by omega
            go_wp2
            go_ret
            refine ⟨⟨_, rfl, ?_⟩, Below.join hBW2 (Nat.le_refl _) hBk⟩
            rw [outAt_len, ← hfin'.out, ← hMlen'.out]
            rw [← hm'.out, List.take_length] at hown
            rw [hm'.out] at hown ⊢
            exact Joins.ownsRow_le hown hBW2.size
  · have hA : orderOf len g gap len' f np P = [] := by unfold orderOf; rw [if_neg (fun h => hz (by rw [h]))]
    rw [hA]
    clear hA
    generalize clashOf len g gap len' f np P = vq at hz hCh
    obtain ⟨v0, v1, v2, v3⟩ := vq
    dsimp only [clashV] at hz hCh
    have hz' : (v0 == 0) = false := by simpa using hz
    go_enter Tryz.func9, Tryz.ntmps9
    go_wp2_with (go_at_call 7; refine hCh.mono ?_; rintro _ w2 ⟨rfl, hB2⟩)
    go_ret
    exact ⟨⟨.slice none 0 0, rfl, World.ownsRow_nil _ _ _ _⟩, Below.join hN (Nat.le_refl _) hB2⟩

end Go.Proofs.YtelickcfodcmaaaGreatDoor

namespace Go.Proofs.YtelickcfodcmaaaGreatDoor
open Go.RowKit

theorem OwnP.capsS {B0 : Nat} {W : World} {c : Option Addr} {np : Nat} {P : Nat → RowD} (h : OwnP B0 W c np P) : Caps W c np := fun j hj => by
  obtain ⟨gR, v, h1, h2, h3, _⟩ := h
  obtain ⟨e, hc, _⟩ := h2 j hj
  rcases (h3 j hj).2 with ⟨e0, h0⟩ | ⟨g, cp, cur, e0, hb, hg, hle, _⟩
  · exact ⟨gR, 0, none, 0, 0, e, by rw [Nat.zero_add, hc, e0], Nat.le_refl _⟩
  · exact ⟨gR, 0, some ⟨g, 0, none⟩, (P j).n, cp, e, by rw [Nat.zero_add, hc, e0], hle⟩
theorem new1 (w : World) (x : Value) (t : TypeId) : (w.alloc (.cells #[x] t)).cell? ⟨w.heap.size, 0, none⟩ = some x := by simp
theorem new4 (w : World) (x y z u : Value) (t : TypeId) : (w.alloc (.cells #[x, y, z, u] t)).cell? ⟨w.heap.size, 0, none⟩ = some x ∧ (w.alloc (.cells #[x, y, z, u] t)).cell? ⟨w.heap.size, 1, none⟩ = some y ∧ (w.alloc (.cells #[x, y, z, u] t)).cell? ⟨w.heap.size, 2, none⟩ = some z ∧ (w.alloc (.cells #[x, y, z, u] t)).cell? ⟨w.heap.size, 3, none⟩ = some u := by simp
set_option maxRecDepth 20000 in
set_option maxHeartbeats 8000000 in
theorem lawSooner_any (a : Option Addr) (len cap : Nat) (a2 : Option Addr) (len2 cap2 : Nat) (w : World) (hI : IsB w a len) (hI2 : IsB w a2 len2) (hg : w.cell? ⟨0, 0, none⟩ = some (.iface 234 (.agg #[.pointer (some ⟨1, 165, none⟩)]))) :
    Calls Tryz.prog 3 #[.slice a len cap, .slice a2 len2 cap2] w fun e w' => e = .returned (.bool true) ∧ Below w.heap.size w w' := by
  by_cases hlen : len ≤ 1048576
  · have hlen' : ¬ ((1048576 : Int) < (len : Int)) := by omega
    by_cases hlen2 : len2 ≤ 1048576
    · have hlen2' : ¬ ((1048576 : Int) < (len2 : Int)) := by omega
      have hD := lines_any w a len cap 9 hlen hI (by decide) (by decide)
      go_enter Tryz.func3, Tryz.ntmps3
      go_wp2_with (go_at_call 5; fail)
      refine hD.mono ?_
      rintro _ w1 ⟨l, hDr, L, at_, ct, aT, cT, hlL, rfl, hown, hB1⟩
      have hF := hDr.right
      have hL5 := hDr.trs
      have hLl : L.length = l.trains.length := by rw [hlL, List.length_map]
      obtain ⟨x1, x2, ex, hIn⟩ := ownInts hown.ints
      cases ex
      obtain ⟨x3, x4, ex, hT1⟩ := hown.trs.trains (fun x hx => by
        have h1 := hDr.legs
        rw [hlL, List.map_map] at h1
        have := Nat.le_trans (le_sum (List.mem_map.2 ⟨x, hx, rfl⟩)) h1
        have h2 : x.1.legs.length ≤ 10 := this
        unfold maxLen; omega)
      cases ex
      rw [← hlL, hLl] at hT1
      rw [hLl]
      replace hIn : IsInts 0 w1.heap.size w1 at_ l.tracks.length (gI l.tracks) := hIn.mono (Nat.zero_le _) (Nat.le_refl _)
      replace hT1 : IsTrains 0 w1.heap.size w1 aT l.trains.length (fT l.trains) := hT1.mono (Nat.zero_le _) (Nat.le_refl _)
      clear hD hown hlL hLl hDr hI
      generalize gI l.tracks = g at hIn hF
      generalize fT l.trains = f at hT1 hF
      generalize l.tracks.length = nt at hIn hF ⊢
      generalize l.trains.length = np at hT1 hF hL5 ⊢
      generalize l.gap = gap at hF ⊢
      clear l
      have hR := rightL_of hF
      have hn10 : legSum f np ≤ 10 := (rightG_of hF).legs
      have h10 : ∀ j, j < np → (f j).nl ≤ 10 := fun j hj => (hR.train j hj).nl
      have hml : ∀ j, j < np → (f j).nl ≤ 1048576 := fun j hj => by have := h10 j hj; omega
      have hnt : nt ≤ 1048576 := by have := hR.st; omega
      have hnp' : np ≤ 1048576 := by omega
      have hg1 := cellLater hB1 hg
      clear hF hR
      have hA := b1 w1 (.cells #[.slice at_ nt ct, .int .i64 gap, .slice aT np cT] 26)
      obtain ⟨n0, n1, n2⟩ := new3 w1 (.slice at_ nt ct) (.int .i64 gap) (.slice aT np cT) 26
      have hAp := aplan_any at_ nt ct g gap aT np cT f a2 len2 cap2 _ hlen2 ((hI2.later hB1).later hA) hnt hL5 h10 hn10 (hIn.grow hA) (hT1.grow hA)
      go_wp2_with (go_at_call 6; fail)
      refine hAp.mono ?_
      rintro _ w2 ⟨c, n, nc, P, rfl, hn5, hP10, hO2, hB2⟩
      clear hAp
      have hrows2 := (hO2.rows hP10).mono (Nat.zero_le _) (Nat.le_refl _)
      have hcaps2 := hO2.capsS
      clear hO2
      have hA2 := b1 w2 (.cells #[.slice c n nc] 30)
      have p0 := new1 w2 (.slice c n nc) 30
      have hC2 := Below.join (Below.join hA (Nat.le_refl _) hB2) (Nat.le_refl _) hA2
      replace n0 := cellLater hA2 (cellLater hB2 n0)
      replace n1 := cellLater hA2 (cellLater hB2 n1)
      replace n2 := cellLater hA2 (cellLater hB2 n2)
      have hmp : ∀ j, j < n → (P j).n ≤ 1048576 := fun j hj => by have := hP10 j hj; omega
      have hn' : n ≤ 1048576 := by omega
      -- what the functions answer, in every later world
      obtain ⟨V2, hV2⟩ : ∃ V2, V2 = w2.alloc (.cells #[.slice c n nc] 30) := ⟨_, rfl⟩
      have hIn2 := hIn.grow hC2
      have hT2 := hT1.grow hC2
      replace hrows2 := hrows2.grow hA2
      replace hcaps2 := hcaps2.later hA2
      have hg2 := cellLater hC2 hg1
      rw [← hV2] at hIn2 hT2 hrows2 hcaps2 hg2 hC2
      obtain ⟨cl, hcl⟩ : ∃ cl, cl = clashOf nt g gap np f n P := ⟨_, rfl⟩
      have hCk := implCheck_any at_ nt ct g gap aT np cT f c n nc P V2 hnt hnp' hml hn' hmp hIn2 hT2 hrows2 hcaps2 hg2
      have hSk : ∀ V : World, Below V2.heap.size V2 V → Calls Tryz.prog 8 #[.agg #[.slice at_ nt ct, .int .i64 gap, .slice aT np cT], .agg #[.slice c n nc]] V fun e w' => e = .returned (clashV cl) ∧ Below V.heap.size V w' := fun V hV => by
        rw [hcl]; exact specCheck_any at_ nt ct g gap aT np cT f c n nc P V hnt hnp' hml hn' hmp (hIn2.grow hV) (hT2.grow hV) (hrows2.grow hV)
      have hOr : ∀ V : World, Below V2.heap.size V2 V → Calls Tryz.prog 9 #[.agg #[.slice at_ nt ct, .int .i64 gap, .slice aT np cT], .agg #[.slice c n nc]] V fun e w' => ∃ oa oc, e = .returned (.slice oa (ordI (orderOf nt g gap np f n P)).length oc) ∧ IsInts 0 w'.heap.size w' oa (ordI (orderOf nt g gap np f n P)).length (gI (ordI (orderOf nt g gap np f n P))) ∧ Below V.heap.size V w' := fun V hV =>
        (implOrder_any at_ nt ct g gap aT np cT f c n nc P V hnt hnp' hml hn' hmp (hIn2.grow hV) (hT2.grow hV) (hrows2.grow hV) (hcaps2.later hV) (cellLater hV hg2)).mono (fun e w' ⟨⟨v, he, ho⟩, hB⟩ => by
          rw [natCells_ord, ← ordI_len] at ho
          obtain ⟨oa, oc, rfl, hO⟩ := ownInts ho
          exact ⟨oa, oc, he, hO.mono (Nat.zero_le _) (Nat.le_refl _), hB⟩)
      have hCo : ∀ V : World, Below V2.heap.size V2 V → Calls Tryz.prog 10 #[.agg #[.slice at_ nt ct, .int .i64 gap, .slice aT np cT], .agg #[.slice c n nc]] V fun e w' => e = .returned (.int .i64 (costOf nt g gap np f n P)) ∧ Below V.heap.size V w' := fun V hV =>
        implCost_any at_ nt ct g gap aT np cT f c n nc P V hnt hnp' hml hn' hmp (hIn2.grow hV) (hT2.grow hV) (hrows2.grow hV) (hcaps2.later hV) (cellLater hV hg2)
      rw [← hcl] at hCk
      go_wp2_with (go_at_call 7; fail)
      rw [← hV2] at n0 n1 n2 p0 ⊢
      refine hCk.mono ?_
      rintro _ w3 ⟨rfl, hB3⟩
      clear hCk
      have hA3 := b1 w3 (.cells #[.int .i64 cl.1, .int .i64 cl.2.1, .int .i64 cl.2.2.1, .int .i64 cl.2.2.2] 33)
      obtain ⟨k0, k1, k2, k3⟩ := new4 w3 (.int .i64 cl.1) (.int .i64 cl.2.1) (.int .i64 cl.2.2.1) (.int .i64 cl.2.2.2) 33
      have hC3 := Below.join hB3 (Nat.le_refl _) hA3
      replace n0 := cellLater hC3 n0
      replace n1 := cellLater hC3 n1
      replace n2 := cellLater hC3 n2
      replace p0 := cellLater hC3 p0
      unfold clashV at hSk ⊢
      have hcl' : Hid _ := hcl
      have hV2' : Hid _ := hV2
      clear hcl hV2
      obtain ⟨V3, hV3⟩ : ∃ V3, V3 = w3.alloc (.cells #[.int .i64 cl.1, .int .i64 cl.2.1, .int .i64 cl.2.2.1, .int .i64 cl.2.2.2] 33) := ⟨_, rfl⟩
      have hDw : Below V2.heap.size V2 V3.drew := by rw [hV3]; exact hC3.drew
      go_wp2
      rw [← hV3] at n0 n1 n2 p0 k0 k1 k2 k3 hC3 ⊢
      clear hV3 hA3
      have hE3 : Below V3.heap.size V3 V3.drew := (Below.refl _ _).drew
      go_region_held3 (fun w' => w'.cell? ⟨w1.heap.size, 0, none⟩ = some (.slice at_ nt ct) ∧ w'.cell? ⟨w1.heap.size, 1, none⟩ = some (.int .i64 gap) ∧ w'.cell? ⟨w1.heap.size, 2, none⟩ = some (.slice aT np cT) ∧ w'.cell? ⟨w2.heap.size, 0, none⟩ = some (.slice c n nc) ∧ w'.cell? ⟨w3.heap.size, 0, none⟩ = some (.int .i64 cl.1) ∧ w'.cell? ⟨w3.heap.size, 1, none⟩ = some (.int .i64 cl.2.1) ∧ w'.cell? ⟨w3.heap.size, 2, none⟩ = some (.int .i64 cl.2.2.1) ∧ w'.cell? ⟨w3.heap.size, 3, none⟩ = some (.int .i64 cl.2.2.2))
        (first | exact ⟨n0, n1, n2, p0, k0, k1, k2, k3⟩ | exact ⟨cellLater hE4 n0, cellLater hE4 n1, cellLater hE4 n2, cellLater hE4 p0, cellLater hE4 k0, cellLater hE4 k1, cellLater hE4 k2, cellLater hE4 k3⟩)
        (first | (go_at_call 8; refine (hSk _ hDw).mono ?_; rintro _ w4 ⟨rfl, hB4⟩; have hD4 := Below.join hDw (Nat.le_refl _) hB4; have hE4 := Below.join hE3 (Nat.le_refl _) hB4))
      replace n0 := cellLater hE4 n0
      replace n1 := cellLater hE4 n1
      replace n2 := cellLater hE4 n2
      replace p0 := cellLater hE4 p0
      replace k0 := cellLater hE4 k0
      clear hSk k1 k2 k3 hE3
      have hOr4 := hOr w4 hD4
      clear hOr
      go_wp2_with (go_at_call 9; fail)
      refine hOr4.mono ?_
      rintro _ w5 ⟨oa, oc, rfl, hO5, hB5⟩
      clear hOr4
      have hD5 := Below.join hD4 (Nat.le_refl _) hB5
      replace n0 := cellLater hB5 n0
      replace n1 := cellLater hB5 n1
      replace n2 := cellLater hB5 n2
      replace p0 := cellLater hB5 p0
      replace k0 := cellLater hB5 k0
      have hBw5 : Below w.heap.size w w5 := Below.join hB1 (Nat.le_refl _) (Below.join hC2 (Nat.le_refl _) hD5)
      rcases clashOf_or nt g gap np f n P with hz | hz
      · -- a plan that can be
        obtain rfl : n = np := (rightP_of (clashOf_ok hz).2).np
        have hcl0 : cl.1 = 0 := by rw [hcl'.out, hz]
        obtain ⟨hc0, hle, hco⟩ := sooner hz
        rw [hcl0] at k0
        have hLen := order_len hz
        have hst : ownPl nt g gap n f n P = placeSt nt g gap n f (ordI (orderOf nt g gap n f n P)).length (gI (ordI (orderOf nt g gap n f n P))) := rfl
        rw [hst] at hc0 hle hco
        clear hst
        generalize ordI (orderOf nt g gap n f n P) = L at *
        have hPl := implPlace_any at_ nt ct g gap aT n cT f oa L.length oc (gI L) w5 hnt hnp' hml (by omega) (hIn2.grow hD5) (hT2.grow hD5) hO5 (cellLater hD5 hg2)
        generalize placeSt nt g gap n f L.length (gI L) = st at *
        clear hO5
        generalize L.length = no at *
        have hz0 : Hid _ := hz
        have hco' : Hid _ := hco
        have hle' : Hid _ := hle
        clear hz hco hle L
        go_wp2_with (go_at_call 11; fail)
        refine hPl.mono ?_
        rintro _ w6 ⟨⟨v6, rfl, hPl6⟩, hB6⟩
        rcases placed_liesU hPl6 with ⟨c6, nc6, rfl, hown6, hn6⟩ | ⟨hz6, _⟩
        · clear hPl hPl6
          have hrows6 := (hown6.rows hn6).mono (Nat.zero_le _) (Nat.le_refl _)
          have hcaps6 := hown6.capsS
          clear hown6
          have hA6 := b1 w6 (.cells #[.int .i64 0, .int .i64 (st.at_ : Int), .slice c6 n nc6] 38)
          obtain ⟨q0, q1, q2⟩ := new3 w6 (.int .i64 0) (.int .i64 (st.at_ : Int)) (.slice c6 n nc6) 38
          have hC6 := Below.join hB6 (Nat.le_refl _) hA6
          replace n0 := cellLater hC6 n0
          replace n1 := cellLater hC6 n1
          replace n2 := cellLater hC6 n2
          replace p0 := cellLater hC6 p0
          replace hrows6 := hrows6.grow hA6
          replace hcaps6 := hcaps6.later hA6
          have hD6 := Below.join hD5 (Nat.le_refl _) hC6
          have hBw6 := Below.join hBw5 (Nat.le_refl _) hC6
          have hrowsP := hrows2.grow hD6
          obtain ⟨V6, hV6⟩ : ∃ V6, V6 = w6.alloc (.cells #[.int .i64 0, .int .i64 (st.at_ : Int), .slice c6 n nc6] 38) := ⟨_, rfl⟩
          have hmp6 : ∀ j, j < n → (st.P j).n ≤ 1048576 := fun j hj => by have := hn6 j hj; omega
          have hCoP : ∀ V : World, Below V6.heap.size V6 V → Calls Tryz.prog 10 #[.agg #[.slice at_ nt ct, .int .i64 gap, .slice aT n cT], .agg #[.slice c n nc]] V fun e w' => e = .returned (.int .i64 (costOf nt g gap n f n P)) ∧ Below V.heap.size V w' := fun V hV => hCo V (Below.join hD6 (Nat.le_refl _) (by rw [← hV6]; exact hV))
          have hCoQ : ∀ V : World, Below V6.heap.size V6 V → Calls Tryz.prog 10 #[.agg #[.slice at_ nt ct, .int .i64 gap, .slice aT n cT], .agg #[.slice c6 n nc6]] V fun e w' => e = .returned (.int .i64 (costOf nt g gap n f n st.P)) ∧ Below V.heap.size V w' := fun V hV => by
            have hV' : Below V2.heap.size V2 V := Below.join hD6 (Nat.le_refl _) (by rw [← hV6]; exact hV)
            have hr := hrows6
            have hk := hcaps6
            rw [← hV6] at hr hk
            exact implCost_any at_ nt ct g gap aT n cT f c6 n nc6 st.P V hnt hnp' hml hn' hmp6 (hIn2.grow hV') (hT2.grow hV') (hr.grow hV) (hk.later hV) (cellLater hV' hg2)
          have hco2 := hco'.out
          clear hco'
          generalize costOf nt g gap n f n st.P = xq at *
          generalize costOf nt g gap n f n P = xp at *
          have hV6' : Hid _ := hV6
          clear hV6 hIn2 hT2 hIn hT1 hCo hmp6 hml hcaps6 hcaps2
          go_wp2
          rename_i Kz az
          refine soon_loop w2.heap.size w6.heap.size n c nc P c6 nc6 st.P _ Kz _ ?_ hL5 hP10 p0 q2 hrowsP hrows6 hle'.out
          intro u4 u10 u11 u67 u68 u69 u70 u71 u72 u73 u74 u75 u76 u77 u78 u79 u80 u81 u82 u83 u84 u85 u86 u87 u88 u89 u90 u91 u92 u93 u94 u95 u96 u97 u98 u99 u100 u101 u102 u103 u104 u105 u106 u107 u108 u109 u110 u111 u112 wr hBr
          refine az _ _ ?_
          clear az
          have hE0 : Below V6.heap.size V6 wr.drew := by rw [hV6'.out]; exact hBr.drew
          have hBw7 := Below.join hBw6 (Nat.le_refl _) hBr
          replace n0 := cellLater hBr n0
          replace n1 := cellLater hBr n1
          replace n2 := cellLater hBr n2
          replace p0 := cellLater hBr p0
          replace q2 := cellLater hBr q2
          have hW0 : Below wr.heap.size wr wr.drew := (Below.refl _ _).drew
          go_wp2
          go_region_held3 (fun w' => w'.cell? ⟨w1.heap.size, 0, none⟩ = some (.slice at_ nt ct) ∧ w'.cell? ⟨w1.heap.size, 1, none⟩ = some (.int .i64 gap) ∧ w'.cell? ⟨w1.heap.size, 2, none⟩ = some (.slice aT n cT) ∧ w'.cell? ⟨w2.heap.size, 0, none⟩ = some (.slice c n nc) ∧ w'.cell? ⟨w6.heap.size, 2, none⟩ = some (.slice c6 n nc6))
            (first | exact ⟨n0, n1, n2, p0, q2⟩ | exact ⟨cellLater hW8 n0, cellLater hW8 n1, cellLater hW8 n2, cellLater hW8 p0, cellLater hW8 q2⟩ | exact ⟨cellLater hW7 n0, cellLater hW7 n1, cellLater hW7 n2, cellLater hW7 p0, cellLater hW7 q2⟩)
            (first | (go_at_call 10; with_reducible refine (hCoQ _ hE0).mono ?_; rintro _ w7 ⟨rfl, hB7⟩; have hE7 := Below.join hE0 (Nat.le_refl _) hB7; have hW7 := Below.join hW0 (Nat.le_refl _) hB7) | (go_at_call 10; with_reducible refine (hCoP _ hE7).mono ?_; rintro _ w8 ⟨rfl, hB8⟩; have hW8 := Below.join hW7 (Nat.le_refl _) hB8))
          go_wp2
          go_ret
          exact ⟨rfl, Below.join hBw7 (Nat.le_refl _) hW8⟩
        · exact absurd hc0 hz6
      · -- none
        have hcl0 : cl.1 ≠ 0 := by rw [hcl'.out]; exact hz
        have hz' : clashOf nt g gap np f n P ≠ (0, 0, 0, 0) := fun e => hz (by rw [e])
        have hord : ordI (orderOf nt g gap np f n P) = [] := by unfold orderOf; rw [if_neg hz']; rfl
        have hcost : costOf nt g gap np f n P = -1 := by unfold costOf; rw [if_neg hz']
        have hb : (cl.1 == 0) = false := by simpa using hcl0
        have hCo5 := hCo w5 hD5
        rw [hcost] at hCo5
        rw [hord] at hO5 ⊢
        clear hCo hcost hord hz hz' hcl0
        go_wp2_with (go_at_call 10; fail)
        refine hCo5.mono ?_
        rintro _ w6 ⟨rfl, hB6⟩
        go_wp2
        go_ret
        exact ⟨rfl, Below.join hBw5 (Nat.le_refl _) hB6⟩
    · have hlen2' : (1048576 : Int) < (len2 : Int) := by omega
      go_enter Tryz.func3, Tryz.ntmps3
      go_wp2
      go_ret
      exact ⟨rfl, Below.refl _ _⟩
  · have hlen' : (1048576 : Int) < (len : Int) := by omega
    go_enter Tryz.func3, Tryz.ntmps3
    go_wp2
    go_ret
    exact ⟨rfl, Below.refl _ _⟩
end Go.Proofs.YtelickcfodcmaaaGreatDoor

namespace Go.Proofs.YtelickcfodcmaaaGreatDoor
open Go.ChangeShapes Go.WideShapes Go.ChangeAt Go.RowKit

set_option maxRecDepth 100000 in
theorem lawSooner_contract (H : Type) (enc : TypeId × Value → H) (W : World) (base : Nat) (args : Array Value) (ds gs : List (DataW H)) (before : List MemPlace)
    (hval : ∀ (j : Nat) t v, Tryz.f3.params[j]? = some t → args[j]? = some v → Value.okWide Tryz.prog W .any base t v)
    (hW : DataW.Whole enc Tryz.prog Tryz.f3.params.toList Rows.fnSoonerSpec.vars false W args.toList ds gs before) (hL : laidMetH Tryz.prog [("errors.errorType", Rows.laid_errors_errorType)] W) :
    Calls Tryz.prog 3 args W fun e W' => ∃ v, e = .returned v ∧ Rows.fnSoonerSpec.post enc Tryz.prog Tryz.f3 false true false false W args v W' := by
  have hW' := hW
  obtain ⟨p, q, hA0, hV, rfl, hfz, hnd⟩ := hW
  have hA : DataW.TrodAll enc Tryz.prog W 0 (fun _ => true) true Tryz.f3.params.toList args.toList ds p := hA0
  rw [Tryz.params3] at hA hval
  obtain ⟨v0, vs0, d0, ds0, p0, q0, hargs, rfl, rfl, h0, r0⟩ := trodAll_cons hA
  obtain ⟨v1, vs1, d1, ds1, p1, q1, rfl, rfl, rfl, h1, r1⟩ := trodAll_cons r0
  obtain ⟨rfl, rfl, rfl⟩ := trodAll_nil r1
  obtain rfl : args = #[v0, v1] := Array.ext' hargs
  obtain ⟨rfl, rfl⟩ := trodVars_none hV
  have hg := handle_of_laid hL
  have hk := h0
  have hk1 := h1
  obtain ⟨a, len, cap, rfl⟩ := okWide_slice Tryz.underlying22 (hval 0 22 v0 rfl rfl)
  obtain ⟨fl, hfl⟩ := h0
  obtain ⟨x1, x2, x3, ex, hI⟩ := readBytes (v := .slice a len cap) (by simpa [Value.cells] using hfl)
  cases ex
  obtain ⟨a2, len2, cap2, rfl⟩ := okWide_slice Tryz.underlying22 (hval 1 22 v1 rfl rfl)
  obtain ⟨fl2, hfl2⟩ := h1
  obtain ⟨x1, x2, x3, ex, hI2⟩ := readBytes (v := .slice a2 len2 cap2) (by simpa [Value.cells] using hfl2)
  cases ex
  simp only [List.append_nil] at hW'
  refine (lawSooner_any a len cap a2 len2 cap2 W hI hI2 hg).mono fun e W' ⟨he, hb⟩ => ?_
  subst he
  have hlt : ∀ x ∈ p0, x.block < W.heap.size := fun x hx => hW'.lt x (by simp [hx])
  have hlt1 : ∀ x ∈ p1, x.block < W.heap.size := fun x hx => hW'.lt x (by simp [hx])
  have e1 : ∀ d d' : DataW H, Rows.fnSoonerSpec.fn H ([d, d'] ++ []) = { results := [.lit (.bool true)], args := [d, d'] } := fun _ _ => rfl
  refine ⟨_, rfl, _, _, _, [], p0 ++ (p1 ++ []), [], hW', ?_, ?_, ?_, hb.frame _, fun h => by cases h⟩
  · rw [e1]; exact trodAll_cons_mk (shut_bool Tryz.underlying4 true) trodAll_mk0
  · rw [e1]; exact trodAll_cons_mk (Below.trod Tryz.laidOut (by kernel_rfl) (of_decide_eq_true (by kernel_rfl)) hk hb hlt) (trodAll_cons_mk (Below.trod Tryz.laidOut (by kernel_rfl) (of_decide_eq_true (by kernel_rfl)) hk1 hb hlt1) trodAll_mk0)
  · rw [e1]; rfl

theorem laidWorld_readsSooner (os : Os) {H : Type} (enc : TypeId × Value → H) : ∃ places, DataW.whole enc Tryz.prog ((laidWorld os).forCall (fun _ _ => 0) ⟨#[], #[.slice none 0 0, .slice none 0 0], []⟩).memory Tryz.f3.params.toList Rows.fnSoonerSpec.vars false #[Value.slice none 0 0, .slice none 0 0].toList 8 = some ([.nil, .nil], [], places) :=
  ⟨[], by kernel_rfl⟩

set_option maxRecDepth 100000 in
theorem lawSooner_lifted (os : Os) (started : os.Started) (H : Type) (enc : TypeId × Value → H) (F : Stop.Interp) :
    ReturnsInHanded {} Tryz.checked os 3 .any ((OpenSpec.ofChange Rows.fnSoonerSpec).preRow enc Tryz.prog Tryz.f3 Rows.fnSoonerRow.domain false Rows.fnSoonerRow.laid) (((OpenSpec.ofChange Rows.fnSoonerSpec).at F).post enc Tryz.prog Tryz.f3 false true false false) := by
  obtain ⟨places, hx⟩ := laidWorld_readsSooner os enc
  refine returnsInHanded_of_row (C := Tryz.checked) (s := OpenSpec.ofChange Rows.fnSoonerSpec) Tryz.own started (by kernel_rfl) Tryz.func3
    (witness_row_at (enc := enc) (C := Tryz.checked) false (laidWorld os) #[.slice none 0 0, .slice none 0 0] rfl (by kernel_rfl) (by kernel_rfl) (by kernel_rfl)
      (OpenSpec.preRow_of_cond 8 hx (by kernel_rfl) (fun k hk => by cases hk) (by kernel_rfl) (laidWorld_met os _))) ?_
  intro W base args ds gs before hval hW _ _ _ hL _ _
  exact lawSooner_contract H enc W base args ds gs before hval hW hL

theorem lawSooner_said : Rows.FnSoonerSaid :=
  OpenClaim.holds_of_cond 3 Tryz.f3 rfl rfl rfl rfl rfl rfl rfl ⟨rfl, rfl, rfl, rfl, rfl⟩ rfl rfl rfl rfl rfl (by kernel_rfl) Tryz.func3 (by kernel_rfl)
    (of_decide_eq_true (by kernel_rfl)) (by unfold Func.isWrapper; rw [if_neg (of_decide_eq_false (by kernel_rfl))]; exact ⟨rfl, rfl⟩)
    (fun os started H enc _ F => by rw [OpenClaim.pre_eq_preRow]; exact lawSooner_lifted os started H enc F)

theorem lawSooner_plain (f : FuncId) (fn : Func) (hf : Tryz.pinned.checked.prog.funcNamed "loop.example/stringline/laws.FnSooner" = some f) (hfn : Tryz.pinned.checked.prog.funcs[f]? = some fn) :
    true = Tryz.pinned.checked.prog.looks [] ∧ ∀ (j : Nat) t, fn.params[j]? = some t → Tryz.pinned.checked.prog.wantsStandIn t = false := by
  obtain rfl : f = 3 := Option.some.inj ((show Tryz.prog.funcNamed "loop.example/stringline/laws.FnSooner" = some 3 by kernel_rfl).symm.trans hf) |>.symm
  obtain rfl : fn = Tryz.f3 := (Option.some.inj (Tryz.func3.symm.trans hfn)).symm
  refine ⟨by kernel_rfl, fun j t ht => ?_⟩
  rw [Tryz.params3] at ht
  obtain rfl : t = 22 := by simpa using Array.mem_of_getElem? ht
  exact (show Tryz.prog.wantsStandIn 22 = false by kernel_rfl)

theorem lawSooner_card : Rows.FnSoonerCardSaid :=
  ⟨Claim7.tied_new_at .later [.handle] true (Claim7.new_of_sixth lawSooner_said _ true rfl ⟨rfl, rfl⟩ (by kernel_rfl) rfl lawSooner_plain) (by kernel_rfl), (fun _ h => by cases h), fnSooner_row_tie, (fun h => by cases h), by kernel_rfl⟩
end Go.Proofs.YtelickcfodcmaaaGreatDoor
