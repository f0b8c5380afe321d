/-
  The program's Check: what it answers.
-/
import Derived.Test.YthnlkpifafklkaaGreatDoorImplF
import Derived.Test.YthnlkpifafklkaaGreatDoorImplO
namespace Go.Proofs.YthnlkpifafklkaaGreatDoor
open Go.RowKit

theorem soonC_or (f : Nat → TrainD) (P : Nat → RowD) (i k : Nat) : soonC f P i k = (0, 0, 0, 0) ∨ (soonC f P i k).1 ≠ 0 := by unfold soonC; split <;> simp
theorem takenC_or (gap : Int) (np : Nat) (f : Nat → TrainD) (P : Nat → RowD) (i k : Nat) : takenC gap np f P i k = (0, 0, 0, 0) ∨ (takenC gap np f P i k).1 ≠ 0 := by unfold takenC; split <;> simp
theorem fullC_or (g : Nat → Int) (np : Nat) (f : Nat → TrainD) (P : Nat → RowD) (i k : Nat) : fullC g np f P i k = (0, 0, 0, 0) ∨ (fullC g np f P i k).1 ≠ 0 := by unfold fullC; split <;> simp
theorem firstC_or {np : Nat} {nl : Nat → Nat} {v : Nat → Nat → Int × Int × Int × Int} (hv : ∀ i k, v i k = (0, 0, 0, 0) ∨ (v i k).1 ≠ 0) : firstC np nl v = (0, 0, 0, 0) ∨ (firstC np nl v).1 ≠ 0 := by
  unfold firstC
  split
  · exact hv _ _
  · exact Or.inl rfl

/-- the three first clashes, one behind the other -/
def tri (p q r : Int × Int × Int × Int) : Nat → Int × Int × Int × Int
  | 0 => p
  | 1 => q
  | _ => r
def three (g : Nat → Int) (gap : Int) (np : Nat) (f : Nat → TrainD) (P : Nat → RowD) : Nat → Int × Int × Int × Int :=
  tri (firstC np (fun i => (f i).nl) (soonC f P)) (firstC np (fun i => (f i).nl) (takenC gap np f P)) (firstC np (fun i => (f i).nl) (fullC g np f P))
theorem three_or (g : Nat → Int) (gap : Int) (np : Nat) (f : Nat → TrainD) (P : Nat → RowD) : ∀ k, three g gap np f P k = (0, 0, 0, 0) ∨ (three g gap np f P k).1 ≠ 0
  | 0 => firstC_or (soonC_or f P)
  | 1 => firstC_or (takenC_or gap np f P)
  | _ + 2 => firstC_or (fullC_or g np f P)

theorem cells12 (V : World) (p0 p1 p2 p3 q0 q1 q2 q3 r0 r1 r2 r3 : Int) (t : TypeId) : ∀ k, k < 3 →
    (V.alloc (.cells #[.int .i64 p0, .int .i64 p1, .int .i64 p2, .int .i64 p3, .int .i64 q0, .int .i64 q1, .int .i64 q2, .int .i64 q3, .int .i64 r0, .int .i64 r1, .int .i64 r2, .int .i64 r3] t)).cell? ⟨V.heap.size, 0 + k * 4, none⟩ = some (.int .i64 (tri (p0, p1, p2, p3) (q0, q1, q2, q3) (r0, r1, r2, r3) k).1) ∧
    (V.alloc (.cells #[.int .i64 p0, .int .i64 p1, .int .i64 p2, .int .i64 p3, .int .i64 q0, .int .i64 q1, .int .i64 q2, .int .i64 q3, .int .i64 r0, .int .i64 r1, .int .i64 r2, .int .i64 r3] t)).cell? ⟨V.heap.size, 0 + k * 4 + 1, none⟩ = some (.int .i64 (tri (p0, p1, p2, p3) (q0, q1, q2, q3) (r0, r1, r2, r3) k).2.1) ∧
    (V.alloc (.cells #[.int .i64 p0, .int .i64 p1, .int .i64 p2, .int .i64 p3, .int .i64 q0, .int .i64 q1, .int .i64 q2, .int .i64 q3, .int .i64 r0, .int .i64 r1, .int .i64 r2, .int .i64 r3] t)).cell? ⟨V.heap.size, 0 + k * 4 + 2, none⟩ = some (.int .i64 (tri (p0, p1, p2, p3) (q0, q1, q2, q3) (r0, r1, r2, r3) k).2.2.1) ∧
    (V.alloc (.cells #[.int .i64 p0, .int .i64 p1, .int .i64 p2, .int .i64 p3, .int .i64 q0, .int .i64 q1, .int .i64 q2, .int .i64 q3, .int .i64 r0, .int .i64 r1, .int .i64 r2, .int .i64 r3] t)).cell? ⟨V.heap.size, 0 + k * 4 + 3, none⟩ = some (.int .i64 (tri (p0, p1, p2, p3) (q0, q1, q2, q3) (r0, r1, r2, r3) k).2.2.2)
  | 0, _ => ⟨by rw [World.cell?_alloc_at _ _ _ _ rfl]; rfl, by rw [World.cell?_alloc_at _ _ _ _ rfl]; rfl, by rw [World.cell?_alloc_at _ _ _ _ rfl]; rfl, by rw [World.cell?_alloc_at _ _ _ _ rfl]; rfl⟩
  | 1, _ => ⟨by rw [World.cell?_alloc_at _ _ _ _ rfl]; rfl, by rw [World.cell?_alloc_at _ _ _ _ rfl]; rfl, by rw [World.cell?_alloc_at _ _ _ _ rfl]; rfl, by rw [World.cell?_alloc_at _ _ _ _ rfl]; rfl⟩
  | 2, _ => ⟨by rw [World.cell?_alloc_at _ _ _ _ rfl]; rfl, by rw [World.cell?_alloc_at _ _ _ _ rfl]; rfl, by rw [World.cell?_alloc_at _ _ _ _ rfl]; rfl, by rw [World.cell?_alloc_at _ _ _ _ rfl]; rfl⟩
theorem set4_cell {W : World} {b k o : Nat} {v : Value} (h : W.cell? ⟨k, o, none⟩ = some v) (hne : k ≠ b) (x0 x1 x2 x3 : Value) : ((((W.setCell ⟨b, 0, none⟩ x0).setCell ⟨b, 1, none⟩ x1).setCell ⟨b, 2, none⟩ x2).setCell ⟨b, 3, none⟩ x3).cell? ⟨k, o, none⟩ = some v :=
  (World.cell?_of_block (a := ⟨k, o, none⟩) (by rw [Below.heap_setCell _ _ _ _ hne, Below.heap_setCell _ _ _ _ hne, Below.heap_setCell _ _ _ _ hne, Below.heap_setCell _ _ _ _ hne])).trans h

set_option maxRecDepth 20000 in
set_option maxHeartbeats 16000000 in
theorem implCheck_main (a : Option Addr) (len cap : Nat) (g : Nat → Int) (gap : Int) (a' : Option Addr) (np cap' : Nat) (f : Nat → TrainD) (c : Option Addr) (nc : Nat) (P : Nat → RowD) (w : World)
    (hl : len ≤ 1048576) (hp : np ≤ 1048576) (hml : ∀ j, j < np → (f j).nl ≤ 1048576) (hmp : ∀ j, j < np → (P j).n ≤ 1048576) (hI : IsInts 0 w.heap.size w a len g) (hT : IsTrains 0 w.heap.size w a' np f) (hP : IsRows 0 w.heap.size w c np P) (hC : Caps w c np)
    (hg : w.cell? ⟨0, 0, none⟩ = some (.iface 184 (.agg #[.pointer (some ⟨10, 129, none⟩)]))) (hF : Hid (faultOf len g gap np f = (0, 0))) (hS : shapeB np f np P = true) :
    Calls Tryz.prog 55 #[.agg #[.slice a len cap, .int .i64 gap, .slice a' np cap'], .agg #[.slice c np nc]] w fun e w' => e = .returned (clashV (orC (three g gap np f P))) ∧ Below w.heap.size w w' := by
  have hX := Boxes.new w a len cap gap a' np cap' c np nc 35 29 86
  have hR := rightL_of hF.out
  have hG := rightG_of hF.out
  have hQ := rightP_of hS
  have hg1 := cellLater (b3 w (.cells #[.slice a len cap, .int .i64 gap, .slice a' np cap'] 35) (.cells #[.slice c np nc] 29) (.cells #[.int .i64 0, .int .i64 0, .int .i64 0, .int .i64 0] 86)) hg
  obtain ⟨⟨e0, e1, e2, e3⟩, hE⟩ : ∃ vv, orC (three g gap np f P) = vv := ⟨_, rfl⟩
  have hor := three_or g gap np f P
  rw [hE]
  unfold three at hE hor
  obtain ⟨⟨p0, p1, p2, p3⟩, hp1⟩ : ∃ vv, firstC np (fun i => (f i).nl) (soonC f P) = vv := ⟨_, rfl⟩
  obtain ⟨⟨q0, q1, q2, q3⟩, hq1⟩ : ∃ vv, firstC np (fun i => (f i).nl) (takenC gap np f P) = vv := ⟨_, rfl⟩
  obtain ⟨⟨s0, s1, s2, s3⟩, hs1⟩ : ∃ vv, firstC np (fun i => (f i).nl) (fullC g np f P) = vv := ⟨_, rfl⟩
  rw [hp1, hq1, hs1] at hE hor
  go_enter Tryz.func55, Tryz.ntmps55
  go_wp2_with (first | (go_at_call 84; refine (hasShape_yes _ _ _ g _ _ _ _ f _ _ _ P _ hl hp hp hml hmp (hI.grow (b3 _ _ _ _)) (hT.grow (b3 _ _ _ _)) (hP.grow (b3 _ _ _ _)) hg1 hF).mono ?_; rw [hS]; rintro _ w2 ⟨rfl, hB2⟩; have hB := Below.join (b3 w _ _ _) (Nat.le_refl _) hB2; replace hX := hX.later hB2; have x0 := hX.l0; have x1 := hX.l1; have x2 := hX.l2; have y0 := hX.p0) | (go_at_call 85; refine (whoHas_any _ _ _ g _ _ _ _ f _ _ P _ hR hG hQ (hT.grow hB) (hP.grow hB)).mono ?_; rintro _ w3 ⟨⟨b0, bT, bS, mT, mS, rfl, hGr⟩, hB3⟩; replace hX := hX.later hB3; replace hB := Below.join hB (Nat.le_refl _) hB3; clear x0 x1 x2 y0))
  have hN := b1 w3 (.cells #[.slice a' np cap', .slice c np nc, .slice a len cap, .map (some bT), .map (some bS)] 136)
  obtain ⟨⟨h0, h1, h2, h3, h4⟩, _⟩ := box5 (Go.heap_alloc_new w3 (.cells #[.slice a' np cap', .slice c np nc, .slice a len cap, .map (some bT), .map (some bS)] 136))
  have lw : w.heap.size + 1 + 1 < w3.heap.size := ltCell hX.r0
  refine nameW fun W hW => ?_
  rw [← hW] at hN h0 h1 h2 h3 h4
  clear hW
  replace hX := hX.later hN
  replace hB := Below.join hB (Nat.le_refl _) hN
  replace hGr := hGr.later hN
  clear hN hB2 hB3 hg1
  have hL1 : ∀ V : World, Below W.heap.size W V → ∀ (i k : Nat) (U : World), i < np → k < (f i).nl → Below V.heap.size V U → Calls Tryz.prog 88 #[.agg #[.slice a' np cap', .slice c np nc, .slice a len cap, .map (some bT), .map (some bS)], .int .i64 i, .int .i64 k] U fun e W' => e = .returned (clashV (soonC f P i k)) ∧ Below U.heap.size U W' := fun V hV i k U hi hk hU =>
    tooSoon_any a len cap a' np cap' f c nc bT bS P i k U hR hQ hi hk (hT.grow (Below.join (Below.join hB (Nat.le_refl _) hV) (Nat.le_refl _) hU)) (hP.grow (Below.join (Below.join hB (Nat.le_refl _) hV) (Nat.le_refl _) hU)) (hC.later (Below.join (Below.join hB (Nat.le_refl _) hV) (Nat.le_refl _) hU))
  have hL2 : ∀ V : World, Below W.heap.size W V → ∀ (i k : Nat) (U : World), i < np → k < (f i).nl → Below V.heap.size V U → Calls Tryz.prog 89 #[.agg #[.slice a' np cap', .slice c np nc, .slice a len cap, .map (some bT), .map (some bS)], .int .i64 i, .int .i64 k] U fun e W' => e = .returned (clashV (takenC gap np f P i k)) ∧ Below U.heap.size U W' := fun V hV i k U hi hk hU =>
    trackTaken_any a len cap g gap a' np cap' f c nc b0 bT bS 20 mT mS _ P i k U hR hG hQ hi hk (hT.grow (Below.join (Below.join hB (Nat.le_refl _) hV) (Nat.le_refl _) hU)) (hP.grow (Below.join (Below.join hB (Nat.le_refl _) hV) (Nat.le_refl _) hU)) ((hGr.later hV).later hU)
  have hL3 : ∀ V : World, Below W.heap.size W V → ∀ (i k : Nat) (U : World), i < np → k < (f i).nl → Below V.heap.size V U → Calls Tryz.prog 90 #[.agg #[.slice a' np cap', .slice c np nc, .slice a len cap, .map (some bT), .map (some bS)], .int .i64 i, .int .i64 k] U fun e W' => e = .returned (clashV (fullC g np f P i k)) ∧ Below U.heap.size U W' := fun V hV i k U hi hk hU =>
    stationFull_any a len cap g gap a' np cap' f c nc b0 bT bS 20 mT mS _ P i k U hR hG hQ hi hk (hI.grow (Below.join (Below.join hB (Nat.le_refl _) hV) (Nat.le_refl _) hU)) (hT.grow (Below.join (Below.join hB (Nat.le_refl _) hV) (Nat.le_refl _) hU)) (hP.grow (Below.join (Below.join hB (Nat.le_refl _) hV) (Nat.le_refl _) hU)) ((hGr.later hV).later hU)
  have hTW : ∀ V : World, Below W.heap.size W V → IsTrains 0 V.heap.size V a' np f := fun V hV => hT.grow (Below.join hB (Nat.le_refl _) hV)
  have hD0 : Below W.heap.size W W.drew := (Below.refl _ _).drew
  have hS0 : W.drew.cell? ⟨w3.heap.size, 0, none⟩ = some (.slice a' np cap') ∧ W.drew.cell? ⟨w3.heap.size, 1, none⟩ = some (.slice c np nc) ∧ W.drew.cell? ⟨w3.heap.size, 2, none⟩ = some (.slice a len cap) ∧ W.drew.cell? ⟨w3.heap.size, 3, none⟩ = some (.map (some bT)) ∧ W.drew.cell? ⟨w3.heap.size, 4, none⟩ = some (.map (some bS)) := ⟨h0, h1, h2, h3, h4⟩
  have hSV : ∀ V : World, Below W.heap.size W V → V.cell? ⟨w3.heap.size, 0, none⟩ = some (.slice a' np cap') ∧ V.cell? ⟨w3.heap.size, 1, none⟩ = some (.slice c np nc) ∧ V.cell? ⟨w3.heap.size, 2, none⟩ = some (.slice a len cap) ∧ V.cell? ⟨w3.heap.size, 3, none⟩ = some (.map (some bT)) ∧ V.cell? ⟨w3.heap.size, 4, none⟩ = some (.map (some bS)) := fun V hV => ⟨cellLater hV h0, cellLater hV h1, cellLater hV h2, cellLater hV h3, cellLater hV h4⟩
  clear hGr
  have hF1 := fun V hV => firstSoon_any a len cap a' np cap' f c nc bT bS (soonC f P) V hR (hTW V hV) (fun i k _ _ => soonC_or f P i k) (hL1 V hV)
  have hF2 := fun V hV => firstTaken_any a len cap a' np cap' f c nc bT bS (takenC gap np f P) V hR (hTW V hV) (fun i k _ _ => takenC_or gap np f P i k) (hL2 V hV)
  have hF3 := fun V hV => firstFull_any a len cap a' np cap' f c nc bT bS (fullC g np f P) V hR (hTW V hV) (fun i k _ _ => fullC_or g np f P i k) (hL3 V hV)
  rw [hp1] at hF1
  rw [hq1] at hF2
  rw [hs1] at hF3
  have hO := fun V : World => or_any V.heap.size 0 3 (tri (p0, p1, p2, p3) (q0, q1, q2, q3) (s0, s1, s2, s3)) _ (fun k _ => hor k) (cells12 V p0 p1 p2 p3 q0 q1 q2 q3 s0 s1 s2 s3 86)
  rw [hE] at hO
  dsimp only [clashV] at hF1 hF2 hF3 hO
  have hXW : ∀ V : World, Below W.heap.size W V → Boxes w V a len cap gap a' np cap' c np nc := fun V hV => hX.later hV
  have hne3 : w3.heap.size ≠ w.heap.size + 1 + 1 := by omega
  clear hL1 hL2 hL3 hTW hor hp1 hq1 hs1 hE h0 h1 h2 h3 h4
  have hF1' : Hid _ := hF1
  have hF2' : Hid _ := hF2
  have hF3' : Hid _ := hF3
  have hO' : Hid _ := hO
  have hSV' : Hid _ := hSV
  have hXW' : Hid _ := hXW
  clear hF1 hF2 hF3 hO hSV hXW
  refine wp_region_held_drew (S := (fun w' => w'.cell? ⟨w3.heap.size, 0, none⟩ = some (.slice a' np cap') ∧ w'.cell? ⟨w3.heap.size, 1, none⟩ = some (.slice c np nc) ∧ w'.cell? ⟨w3.heap.size, 2, none⟩ = some (.slice a len cap) ∧ w'.cell? ⟨w3.heap.size, 3, none⟩ = some (.map (some bT)) ∧ w'.cell? ⟨w3.heap.size, 4, none⟩ = some (.map (some bS)))) (by kernel_rfl) hS0 (fun hHeld => ?_)
  refine wpAnyH_take (i := 0) (oi := { dst := some 14, op := Go.Op.load 136 (Go.Operand.tmp 5), type := 136, pos := "l2_plan.go:47", after := #[], guard := none }) (v := ?vv0) rfl (by kernel_rfl) (by kernel_rfl) (by kernel_rfl) (fun _ _ _ h => h) (Or.inl ⟨by rfl, ?hy0⟩) (by assumption) ?rest0
  case hy0 =>
    intro w hSw
    (try dsimp only at hSw)
    go_simp
    (try with_reducible rfl)
  simp only [Act.put, List.setIfInBounds_toArray, List.set_cons_zero, List.set_cons_succ]
  refine wpAnyH_take (i := 1) (oi := { dst := some 15, op := Go.Op.load 136 (Go.Operand.tmp 5), type := 136, pos := "l2_plan.go:47", after := #[], guard := none }) (v := ?vv1) rfl (by kernel_rfl) (by kernel_rfl) (by kernel_rfl) (fun _ _ _ h => h) (Or.inl ⟨by rfl, ?hy1⟩) (by assumption) ?rest1
  case hy1 =>
    intro w hSw
    (try dsimp only at hSw)
    go_simp
    (try with_reducible rfl)
  simp only [Act.put, List.setIfInBounds_toArray, List.set_cons_zero, List.set_cons_succ]
  refine wpAnyH_take (i := 2) (oi := { dst := some 16, op := Go.Op.makeFunc (Go.Fn.func 88) #[Go.Operand.tmp 15] #[], type := 140, pos := "l2_plan.go:47", after := #[{ on := 1, ground := Go.Ground.data }], guard := none }) (v := ?vv2) rfl (by kernel_rfl) (by kernel_rfl) (by kernel_rfl) (fun _ _ _ h => h) (Or.inl ⟨by rfl, ?hy2⟩) (by assumption) ?rest2
  case hy2 =>
    intro w hSw
    (try dsimp only at hSw)
    go_simp
    (try with_reducible rfl)
  simp only [Act.put, List.setIfInBounds_toArray, List.set_cons_zero, List.set_cons_succ]
  refine wpAnyH_take (i := 4) (oi := { dst := some 18, op := Go.Op.load 136 (Go.Operand.tmp 5), type := 136, pos := "l2_plan.go:47", after := #[], guard := none }) (v := ?vv4) rfl (by kernel_rfl) (by kernel_rfl) (by kernel_rfl) (fun _ _ _ h => h) (Or.inl ⟨by rfl, ?hy4⟩) (by assumption) ?rest4
  case hy4 =>
    intro w hSw
    (try dsimp only at hSw)
    go_simp
    (try with_reducible rfl)
  simp only [Act.put, List.setIfInBounds_toArray, List.set_cons_zero, List.set_cons_succ]
  refine wpAnyH_take (i := 5) (oi := { dst := some 19, op := Go.Op.load 136 (Go.Operand.tmp 5), type := 136, pos := "l2_plan.go:47", after := #[], guard := none }) (v := ?vv5) rfl (by kernel_rfl) (by kernel_rfl) (by kernel_rfl) (fun _ _ _ h => h) (Or.inl ⟨by rfl, ?hy5⟩) (by assumption) ?rest5
  case hy5 =>
    intro w hSw
    (try dsimp only at hSw)
    go_simp
    (try with_reducible rfl)
  simp only [Act.put, List.setIfInBounds_toArray, List.set_cons_zero, List.set_cons_succ]
  refine wpAnyH_take (i := 6) (oi := { dst := some 20, op := Go.Op.makeFunc (Go.Fn.func 89) #[Go.Operand.tmp 19] #[], type := 140, pos := "l2_plan.go:47", after := #[{ on := 5, ground := Go.Ground.data }], guard := none }) (v := ?vv6) rfl (by kernel_rfl) (by kernel_rfl) (by kernel_rfl) (fun _ _ _ h => h) (Or.inl ⟨by rfl, ?hy6⟩) (by assumption) ?rest6
  case hy6 =>
    intro w hSw
    (try dsimp only at hSw)
    go_simp
    (try with_reducible rfl)
  simp only [Act.put, List.setIfInBounds_toArray, List.set_cons_zero, List.set_cons_succ]
  refine wpAnyH_take (i := 8) (oi := { dst := some 22, op := Go.Op.load 136 (Go.Operand.tmp 5), type := 136, pos := "l2_plan.go:47", after := #[], guard := none }) (v := ?vv8) rfl (by kernel_rfl) (by kernel_rfl) (by kernel_rfl) (fun _ _ _ h => h) (Or.inl ⟨by rfl, ?hy8⟩) (by assumption) ?rest8
  case hy8 =>
    intro w hSw
    (try dsimp only at hSw)
    go_simp
    (try with_reducible rfl)
  simp only [Act.put, List.setIfInBounds_toArray, List.set_cons_zero, List.set_cons_succ]
  refine wpAnyH_take (i := 9) (oi := { dst := some 23, op := Go.Op.load 136 (Go.Operand.tmp 5), type := 136, pos := "l2_plan.go:47", after := #[], guard := none }) (v := ?vv9) rfl (by kernel_rfl) (by kernel_rfl) (by kernel_rfl) (fun _ _ _ h => h) (Or.inl ⟨by rfl, ?hy9⟩) (by assumption) ?rest9
  case hy9 =>
    intro w hSw
    (try dsimp only at hSw)
    go_simp
    (try with_reducible rfl)
  simp only [Act.put, List.setIfInBounds_toArray, List.set_cons_zero, List.set_cons_succ]
  refine wpAnyH_take (i := 10) (oi := { dst := some 24, op := Go.Op.makeFunc (Go.Fn.func 90) #[Go.Operand.tmp 23] #[], type := 140, pos := "l2_plan.go:47", after := #[{ on := 9, ground := Go.Ground.data }], guard := none }) (v := ?vv10) rfl (by kernel_rfl) (by kernel_rfl) (by kernel_rfl) (fun _ _ _ h => h) (Or.inl ⟨by rfl, ?hy10⟩) (by assumption) ?rest10
  case hy10 =>
    intro w hSw
    (try dsimp only at hSw)
    go_simp
    (try with_reducible rfl)
  simp only [Act.put, List.setIfInBounds_toArray, List.set_cons_zero, List.set_cons_succ]
  refine wpAnyH_ready (rs := [3]) (by kernel_rfl) (by simp) ?_
  refine AllReadyH.cons (o := { dst := some 17, op := Go.Op.call { callee := Go.Callee.value (Go.Operand.func 87), args := #[Go.Operand.tmp 14, Go.Operand.tmp 16], argTypes := #[136, 140] }, type := 86, pos := "l2_plan.go:47", after := #[{ on := 0, ground := Go.Ground.data }, { on := 2, ground := Go.Ground.data }], guard := none }) rfl (fun K hK => ?_) AllReadyH.nil
  go_simp
  refine (hF1'.out _ hD0).mono ?_
  rintro _ V1 ⟨rfl, hB1⟩
  have hD1 := Below.join hD0 (Nat.le_refl _) hB1
  refine hK.out _ _ (hSV'.out _ hD1) (fun hHeld => ?_)
  clear hK K
  (try simp only [Act.put, List.setIfInBounds_toArray, List.set_cons_zero, List.set_cons_succ])
  refine wpAnyH_ready (rs := [7]) (by kernel_rfl) (by simp) ?_
  refine AllReadyH.cons (o := { dst := some 21, op := Go.Op.call { callee := Go.Callee.value (Go.Operand.func 87), args := #[Go.Operand.tmp 18, Go.Operand.tmp 20], argTypes := #[136, 140] }, type := 86, pos := "l2_plan.go:47", after := #[{ on := 4, ground := Go.Ground.data }, { on := 6, ground := Go.Ground.data }, { on := 3, ground := Go.Ground.chain }], guard := none }) rfl (fun K hK => ?_) AllReadyH.nil
  go_simp
  refine (hF2'.out _ hD1).mono ?_
  rintro _ V2 ⟨rfl, hB2⟩
  have hD2 := Below.join hD1 (Nat.le_refl _) hB2
  refine hK.out _ _ (hSV'.out _ hD2) (fun hHeld => ?_)
  clear hK K
  (try simp only [Act.put, List.setIfInBounds_toArray, List.set_cons_zero, List.set_cons_succ])
  refine wpAnyH_ready (rs := [11]) (by kernel_rfl) (by simp) ?_
  refine AllReadyH.cons (o := { dst := some 25, op := Go.Op.call { callee := Go.Callee.value (Go.Operand.func 87), args := #[Go.Operand.tmp 22, Go.Operand.tmp 24], argTypes := #[136, 140] }, type := 86, pos := "l2_plan.go:47", after := #[{ on := 8, ground := Go.Ground.data }, { on := 10, ground := Go.Ground.data }, { on := 7, ground := Go.Ground.chain }], guard := none }) rfl (fun K hK => ?_) AllReadyH.nil
  go_simp
  refine (hF3'.out _ hD2).mono ?_
  rintro _ V3 ⟨rfl, hB3⟩
  have hD3 := Below.join hD2 (Nat.le_refl _) hB3
  refine hK.out _ _ (hSV'.out _ hD3) (fun hHeld => ?_)
  clear hK K
  (try simp only [Act.put, List.setIfInBounds_toArray, List.set_cons_zero, List.set_cons_succ])
  refine wpAnyH_ready (rs := [12]) (by kernel_rfl) (by simp) ?_
  refine AllReadyH.cons (o := { dst := some 26, op := Go.Op.buildSlice 175 3 #[(0, Go.Operand.tmp 17), (1, Go.Operand.tmp 21), (2, Go.Operand.tmp 25)], type := 175, pos := "l2_plan.go:47", after := #[{ on := 3, ground := Go.Ground.data }, { on := 7, ground := Go.Ground.data }, { on := 11, ground := Go.Ground.data }], guard := none }) rfl (fun K hK => ?_) AllReadyH.nil
  go_simp
  have hD4 := Below.join hD3 (Nat.le_refl _) (b1 V3 (.cells #[.int .i64 p0, .int .i64 p1, .int .i64 p2, .int .i64 p3, .int .i64 q0, .int .i64 q1, .int .i64 q2, .int .i64 q3, .int .i64 s0, .int .i64 s1, .int .i64 s2, .int .i64 s3] 86))
  refine hK.out _ _ (hSV'.out _ hD4) (fun hHeld => ?_)
  clear hK K
  (try simp only [Act.put, List.setIfInBounds_toArray, List.set_cons_zero, List.set_cons_succ])
  refine wpAnyH_ready (rs := [13]) (by kernel_rfl) (by simp) ?_
  refine AllReadyH.cons (o := { dst := some 27, op := Go.Op.call { callee := Go.Callee.value (Go.Operand.func 86), args := #[Go.Operand.tmp 26], argTypes := #[175] }, type := 86, pos := "l2_plan.go:47", after := #[{ on := 12, ground := Go.Ground.data }, { on := 11, ground := Go.Ground.chain }], guard := none }) rfl (fun K hK => ?_) AllReadyH.nil
  go_simp
  refine (hO'.out _).mono ?_
  rintro _ V5 ⟨rfl, hB5⟩
  have hD5 := Below.join hD4 (Nat.le_refl _) hB5
  have hSe := hSV'.out _ hD5
  have hX5 := hXW'.out _ hD5
  have r0 := hX5.r0
  have r1 := hX5.r1
  have r2 := hX5.r2
  have r3 := hX5.r3
  have z0 := hX5.z0
  have z1 := hX5.z1
  have z2 := hX5.z2
  have z3 := hX5.z3
  refine hK.out _ _ hSe (fun hHeld => ?_)
  clear hK K
  (try simp only [Act.put, List.setIfInBounds_toArray, List.set_cons_zero, List.set_cons_succ])
  refine wpAnyH_ready (rs := [14]) (by kernel_rfl) (by simp) ?_
  refine AllReadyH.cons (o := { dst := none, op := Go.Op.store 86 (Go.Operand.tmp 4) (Go.Operand.tmp 27), type := 0, pos := "l2_plan.go:47", after := #[{ on := 13, ground := Go.Ground.data }, { on := 13, ground := Go.Ground.chain }, { on := 0, ground := Go.Ground.phase }, { on := 1, ground := Go.Ground.phase }, { on := 2, ground := Go.Ground.phase }, { on := 3, ground := Go.Ground.phase }, { on := 4, ground := Go.Ground.phase }, { on := 5, ground := Go.Ground.phase }, { on := 6, ground := Go.Ground.phase }, { on := 7, ground := Go.Ground.phase }, { on := 8, ground := Go.Ground.phase }, { on := 9, ground := Go.Ground.phase }, { on := 10, ground := Go.Ground.phase }, { on := 11, ground := Go.Ground.phase }, { on := 12, ground := Go.Ground.phase }, { on := 13, ground := Go.Ground.phase }], guard := none }) rfl (fun K hK => ?_) AllReadyH.nil
  go_simp
  have hSf := And.intro (set4_cell hSe.1 hne3 (.int .i64 e0) (.int .i64 e1) (.int .i64 e2) (.int .i64 e3)) (And.intro (set4_cell hSe.2.1 hne3 (.int .i64 e0) (.int .i64 e1) (.int .i64 e2) (.int .i64 e3)) (And.intro (set4_cell hSe.2.2.1 hne3 (.int .i64 e0) (.int .i64 e1) (.int .i64 e2) (.int .i64 e3)) (And.intro (set4_cell hSe.2.2.2.1 hne3 (.int .i64 e0) (.int .i64 e1) (.int .i64 e2) (.int .i64 e3)) (set4_cell hSe.2.2.2.2 hne3 (.int .i64 e0) (.int .i64 e1) (.int .i64 e2) (.int .i64 e3)))))
  refine hK.out _ _ hSf (fun hHeld => ?_)
  clear hK K
  (try simp only [Act.put, List.setIfInBounds_toArray, List.set_cons_zero, List.set_cons_succ])
  refine wpAnyH_done (by kernel_rfl) ?_ _
  all_goals
    go_wp2
    refine bodyPost_ret (v := .agg #[.int .i64 e0, .int .i64 e1, .int .i64 e2, .int .i64 e3]) (by simp [results, Tryz.results55, go_sem, r0, r1, r2, r3]) rfl ⟨rfl, ?_⟩
    exact below_set4 (Below.join hB (Nat.le_refl _) hD5) (by omega) _ _ _ _
end Go.Proofs.YthnlkpifafklkaaGreatDoor
