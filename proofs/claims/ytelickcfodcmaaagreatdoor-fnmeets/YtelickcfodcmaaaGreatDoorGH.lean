/-
  The program's Check: what it answers.
  The first clash by the program's way of looking is the first clash. The program's Check, at every argument.
  The program's Place: what it answers.
  A line, so much later: laws.wLater.
-/
import Derived.Test.YtelickcfodcmaaaGreatDoorGG
import Derived.Test.YtelickcfodcmaaaGreatDoorIsRight
import Derived.Test.YtelickcfodcmaaaGreatDoorGB
namespace Go.Proofs.YtelickcfodcmaaaGreatDoor
open Go.RowKit

theorem soonC_or (f : Nat → TrainD) (P : Nat → RowD) (i k : Nat) : soonC f P i k = (0, 0, 0, 0) ∨ (soonC f P i k).1 ≠ 0 := by unfold soonC; split <;> simp
theorem takenC_or (gap : Int) (np : Nat) (f : Nat → TrainD) (P : Nat → RowD) (i k : Nat) : takenC gap np f P i k = (0, 0, 0, 0) ∨ (takenC gap np f P i k).1 ≠ 0 := by unfold takenC; split <;> simp
theorem fullC_or (g : Nat → Int) (np : Nat) (f : Nat → TrainD) (P : Nat → RowD) (i k : Nat) : fullC g np f P i k = (0, 0, 0, 0) ∨ (fullC g np f P i k).1 ≠ 0 := by unfold fullC; split <;> simp
theorem firstC_or {np : Nat} {nl : Nat → Nat} {v : Nat → Nat → Int × Int × Int × Int} (hv : ∀ i k, v i k = (0, 0, 0, 0) ∨ (v i k).1 ≠ 0) : firstC np nl v = (0, 0, 0, 0) ∨ (firstC np nl v).1 ≠ 0 := by
  unfold firstC
  split
  · exact hv _ _
  · exact Or.inl rfl

/-- the three first clashes, one behind the other -/
def tri (p q r : Int × Int × Int × Int) : Nat → Int × Int × Int × Int
  | 0 => p
  | 1 => q
  | _ => r
def three (g : Nat → Int) (gap : Int) (np : Nat) (f : Nat → TrainD) (P : Nat → RowD) : Nat → Int × Int × Int × Int :=
  tri (firstC np (fun i => (f i).nl) (soonC f P)) (firstC np (fun i => (f i).nl) (takenC gap np f P)) (firstC np (fun i => (f i).nl) (fullC g np f P))
theorem three_or (g : Nat → Int) (gap : Int) (np : Nat) (f : Nat → TrainD) (P : Nat → RowD) : ∀ k, three g gap np f P k = (0, 0, 0, 0) ∨ (three g gap np f P k).1 ≠ 0
  | 0 => firstC_or (soonC_or f P)
  | 1 => firstC_or (takenC_or gap np f P)
  | _ + 2 => firstC_or (fullC_or g np f P)

theorem cells12 (V : World) (p0 p1 p2 p3 q0 q1 q2 q3 r0 r1 r2 r3 : Int) (t : TypeId) : ∀ k, k < 3 →
    (V.alloc (.cells #[.int .i64 p0, .int .i64 p1, .int .i64 p2, .int .i64 p3, .int .i64 q0, .int .i64 q1, .int .i64 q2, .int .i64 q3, .int .i64 r0, .int .i64 r1, .int .i64 r2, .int .i64 r3] t)).cell? ⟨V.heap.size, 0 + k * 4, none⟩ = some (.int .i64 (tri (p0, p1, p2, p3) (q0, q1, q2, q3) (r0, r1, r2, r3) k).1) ∧
    (V.alloc (.cells #[.int .i64 p0, .int .i64 p1, .int .i64 p2, .int .i64 p3, .int .i64 q0, .int .i64 q1, .int .i64 q2, .int .i64 q3, .int .i64 r0, .int .i64 r1, .int .i64 r2, .int .i64 r3] t)).cell? ⟨V.heap.size, 0 + k * 4 + 1, none⟩ = some (.int .i64 (tri (p0, p1, p2, p3) (q0, q1, q2, q3) (r0, r1, r2, r3) k).2.1) ∧
    (V.alloc (.cells #[.int .i64 p0, .int .i64 p1, .int .i64 p2, .int .i64 p3, .int .i64 q0, .int .i64 q1, .int .i64 q2, .int .i64 q3, .int .i64 r0, .int .i64 r1, .int .i64 r2, .int .i64 r3] t)).cell? ⟨V.heap.size, 0 + k * 4 + 2, none⟩ = some (.int .i64 (tri (p0, p1, p2, p3) (q0, q1, q2, q3) (r0, r1, r2, r3) k).2.2.1) ∧
    (V.alloc (.cells #[.int .i64 p0, .int .i64 p1, .int .i64 p2, .int .i64 p3, .int .i64 q0, .int .i64 q1, .int .i64 q2, .int .i64 q3, .int .i64 r0, .int .i64 r1, .int .i64 r2, .int .i64 r3] t)).cell? ⟨V.heap.size, 0 + k * 4 + 3, none⟩ = some (.int .i64 (tri (p0, p1, p2, p3) (q0, q1, q2, q3) (r0, r1, r2, r3) k).2.2.2)
  | 0, _ => ⟨by rw [World.cell?_alloc_at _ _ _ _ rfl]; rfl, by rw [World.cell?_alloc_at _ _ _ _ rfl]; rfl, by rw [World.cell?_alloc_at _ _ _ _ rfl]; rfl, by rw [World.cell?_alloc_at _ _ _ _ rfl]; rfl⟩
  | 1, _ => ⟨by rw [World.cell?_alloc_at _ _ _ _ rfl]; rfl, by rw [World.cell?_alloc_at _ _ _ _ rfl]; rfl, by rw [World.cell?_alloc_at _ _ _ _ rfl]; rfl, by rw [World.cell?_alloc_at _ _ _ _ rfl]; rfl⟩
  | 2, _ => ⟨by rw [World.cell?_alloc_at _ _ _ _ rfl]; rfl, by rw [World.cell?_alloc_at _ _ _ _ rfl]; rfl, by rw [World.cell?_alloc_at _ _ _ _ rfl]; rfl, by rw [World.cell?_alloc_at _ _ _ _ rfl]; rfl⟩
theorem set4_cell {W : World} {b k o : Nat} {v : Value} (h : W.cell? ⟨k, o, none⟩ = some v) (hne : k ≠ b) (x0 x1 x2 x3 : Value) : ((((W.setCell ⟨b, 0, none⟩ x0).setCell ⟨b, 1, none⟩ x1).setCell ⟨b, 2, none⟩ x2).setCell ⟨b, 3, none⟩ x3).cell? ⟨k, o, none⟩ = some v :=
  (World.cell?_of_block (a := ⟨k, o, none⟩) (by rw [Below.heap_setCell _ _ _ _ hne, Below.heap_setCell _ _ _ _ hne, Below.heap_setCell _ _ _ _ hne, Below.heap_setCell _ _ _ _ hne])).trans h

set_option maxRecDepth 20000 in
set_option maxHeartbeats 16000000 in
theorem implCheck_main (a : Option Addr) (len cap : Nat) (g : Nat → Int) (gap : Int) (a' : Option Addr) (np cap' : Nat) (f : Nat → TrainD) (c : Option Addr) (nc : Nat) (P : Nat → RowD) (w : World)
    (hl : len ≤ 1048576) (hp : np ≤ 1048576) (hml : ∀ j, j < np → (f j).nl ≤ 1048576) (hmp : ∀ j, j < np → (P j).n ≤ 1048576) (hI : IsInts 0 w.heap.size w a len g) (hT : IsTrains 0 w.heap.size w a' np f) (hP : IsRows 0 w.heap.size w c np P) (hC : Caps w c np)
    (hg : w.cell? ⟨0, 0, none⟩ = some (.iface 234 (.agg #[.pointer (some ⟨1, 165, none⟩)]))) (hF : Hid (faultOf len g gap np f = (0, 0))) (hS : shapeB np f np P = true) :
    Calls Tryz.prog 7 #[.agg #[.slice a len cap, .int .i64 gap, .slice a' np cap'], .agg #[.slice c np nc]] w fun e w' => e = .returned (clashV (orC (three g gap np f P))) ∧ Below w.heap.size w w' := by
  have hX := Boxes.new w a len cap gap a' np cap' c np nc 26 30 33
  have hR := rightL_of hF.out
  have hG := rightG_of hF.out
  have hQ := rightP_of hS
  have hg1 := cellLater (b3 w (.cells #[.slice a len cap, .int .i64 gap, .slice a' np cap'] 26) (.cells #[.slice c np nc] 30) (.cells #[.int .i64 0, .int .i64 0, .int .i64 0, .int .i64 0] 33)) hg
  obtain ⟨⟨e0, e1, e2, e3⟩, hE⟩ : ∃ vv, orC (three g gap np f P) = vv := ⟨_, rfl⟩
  have hor := three_or g gap np f P
  rw [hE]
  unfold three at hE hor
  obtain ⟨⟨p0, p1, p2, p3⟩, hp1⟩ : ∃ vv, firstC np (fun i => (f i).nl) (soonC f P) = vv := ⟨_, rfl⟩
  obtain ⟨⟨q0, q1, q2, q3⟩, hq1⟩ : ∃ vv, firstC np (fun i => (f i).nl) (takenC gap np f P) = vv := ⟨_, rfl⟩
  obtain ⟨⟨s0, s1, s2, s3⟩, hs1⟩ : ∃ vv, firstC np (fun i => (f i).nl) (fullC g np f P) = vv := ⟨_, rfl⟩
  rw [hp1, hq1, hs1] at hE hor
  go_enter Tryz.func7, Tryz.ntmps7
  go_wp2_with (first | (go_at_call 22; refine (hasShape_yes _ _ _ g _ _ _ _ f _ _ _ P _ hl hp hp hml hmp (hI.grow (b3 _ _ _ _)) (hT.grow (b3 _ _ _ _)) (hP.grow (b3 _ _ _ _)) hg1 hF).mono ?_; rw [hS]; rintro _ w2 ⟨rfl, hB2⟩; have hB := Below.join (b3 w _ _ _) (Nat.le_refl _) hB2; replace hX := hX.later hB2; have x0 := hX.l0; have x1 := hX.l1; have x2 := hX.l2; have y0 := hX.p0) | (go_at_call 23; refine (whoHas_any _ _ _ g _ _ _ _ f _ _ P _ hR hG hQ (hT.grow hB) (hP.grow hB)).mono ?_; rintro _ w3 ⟨⟨b0, bT, bS, mT, mS, rfl, hGr⟩, hB3⟩; replace hX := hX.later hB3; replace hB := Below.join hB (Nat.le_refl _) hB3; clear x0 x1 x2 y0))
  have hN := b1 w3 (.cells #[.slice a' np cap', .slice c np nc, .slice a len cap, .map (some bT), .map (some bS)] 62)
  obtain ⟨⟨h0, h1, h2, h3, h4⟩, _⟩ := box5 (Go.heap_alloc_new w3 (.cells #[.slice a' np cap', .slice c np nc, .slice a len cap, .map (some bT), .map (some bS)] 62))
  have lw : w.heap.size + 1 + 1 < w3.heap.size := ltCell hX.r0
  refine nameW fun W hW => ?_
  rw [← hW] at hN h0 h1 h2 h3 h4
  clear hW
  replace hX := hX.later hN
  replace hB := Below.join hB (Nat.le_refl _) hN
  replace hGr := hGr.later hN
  clear hN hB2 hB3 hg1
  have hL1 : ∀ V : World, Below W.heap.size W V → ∀ (i k : Nat) (U : World), i < np → k < (f i).nl → Below V.heap.size V U → Calls Tryz.prog 26 #[.agg #[.slice a' np cap', .slice c np nc, .slice a len cap, .map (some bT), .map (some bS)], .int .i64 i, .int .i64 k] U fun e W' => e = .returned (clashV (soonC f P i k)) ∧ Below U.heap.size U W' := fun V hV i k U hi hk hU =>
    tooSoon_any a len cap a' np cap' f c nc bT bS P i k U hR hQ hi hk (hT.grow (Below.join (Below.join hB (Nat.le_refl _) hV) (Nat.le_refl _) hU)) (hP.grow (Below.join (Below.join hB (Nat.le_refl _) hV) (Nat.le_refl _) hU)) (hC.later (Below.join (Below.join hB (Nat.le_refl _) hV) (Nat.le_refl _) hU))
  have hL2 : ∀ V : World, Below W.heap.size W V → ∀ (i k : Nat) (U : World), i < np → k < (f i).nl → Below V.heap.size V U → Calls Tryz.prog 27 #[.agg #[.slice a' np cap', .slice c np nc, .slice a len cap, .map (some bT), .map (some bS)], .int .i64 i, .int .i64 k] U fun e W' => e = .returned (clashV (takenC gap np f P i k)) ∧ Below U.heap.size U W' := fun V hV i k U hi hk hU =>
    trackTaken_any a len cap g gap a' np cap' f c nc b0 bT bS 20 mT mS _ P i k U hR hG hQ hi hk (hT.grow (Below.join (Below.join hB (Nat.le_refl _) hV) (Nat.le_refl _) hU)) (hP.grow (Below.join (Below.join hB (Nat.le_refl _) hV) (Nat.le_refl _) hU)) ((hGr.later hV).later hU)
  have hL3 : ∀ V : World, Below W.heap.size W V → ∀ (i k : Nat) (U : World), i < np → k < (f i).nl → Below V.heap.size V U → Calls Tryz.prog 28 #[.agg #[.slice a' np cap', .slice c np nc, .slice a len cap, .map (some bT), .map (some bS)], .int .i64 i, .int .i64 k] U fun e W' => e = .returned (clashV (fullC g np f P i k)) ∧ Below U.heap.size U W' := fun V hV i k U hi hk hU =>
    stationFull_any a len cap g gap a' np cap' f c nc b0 bT bS 20 mT mS _ P i k U hR hG hQ hi hk (hI.grow (Below.join (Below.join hB (Nat.le_refl _) hV) (Nat.le_refl _) hU)) (hT.grow (Below.join (Below.join hB (Nat.le_refl _) hV) (Nat.le_refl _) hU)) (hP.grow (Below.join (Below.join hB (Nat.le_refl _) hV) (Nat.le_refl _) hU)) ((hGr.later hV).later hU)
  have hTW : ∀ V : World, Below W.heap.size W V → IsTrains 0 V.heap.size V a' np f := fun V hV => hT.grow (Below.join hB (Nat.le_refl _) hV)
  have hD0 : Below W.heap.size W W.drew := (Below.refl _ _).drew
  have hS0 : W.drew.cell? ⟨w3.heap.size, 0, none⟩ = some (.slice a' np cap') ∧ W.drew.cell? ⟨w3.heap.size, 1, none⟩ = some (.slice c np nc) ∧ W.drew.cell? ⟨w3.heap.size, 2, none⟩ = some (.slice a len cap) ∧ W.drew.cell? ⟨w3.heap.size, 3, none⟩ = some (.map (some bT)) ∧ W.drew.cell? ⟨w3.heap.size, 4, none⟩ = some (.map (some bS)) := ⟨h0, h1, h2, h3, h4⟩
  have hSV : ∀ V : World, Below W.heap.size W V → V.cell? ⟨w3.heap.size, 0, none⟩ = some (.slice a' np cap') ∧ V.cell? ⟨w3.heap.size, 1, none⟩ = some (.slice c np nc) ∧ V.cell? ⟨w3.heap.size, 2, none⟩ = some (.slice a len cap) ∧ V.cell? ⟨w3.heap.size, 3, none⟩ = some (.map (some bT)) ∧ V.cell? ⟨w3.heap.size, 4, none⟩ = some (.map (some bS)) := fun V hV => ⟨cellLater hV h0, cellLater hV h1, cellLater hV h2, cellLater hV h3, cellLater hV h4⟩
  clear hGr
  have hF1 := fun V hV => firstSoon_any a len cap a' np cap' f c nc bT bS (soonC f P) V hR (hTW V hV) (fun i k _ _ => soonC_or f P i k) (hL1 V hV)
  have hF2 := fun V hV => firstTaken_any a len cap a' np cap' f c nc bT bS (takenC gap np f P) V hR (hTW V hV) (fun i k _ _ => takenC_or gap np f P i k) (hL2 V hV)
  have hF3 := fun V hV => firstFull_any a len cap a' np cap' f c nc bT bS (fullC g np f P) V hR (hTW V hV) (fun i k _ _ => fullC_or g np f P i k) (hL3 V hV)
  rw [hp1] at hF1
  rw [hq1] at hF2
  rw [hs1] at hF3
  have hO := fun V : World => or_any V.heap.size 0 3 (tri (p0, p1, p2, p3) (q0, q1, q2, q3) (s0, s1, s2, s3)) _ (fun k _ => hor k) (cells12 V p0 p1 p2 p3 q0 q1 q2 q3 s0 s1 s2 s3 33)
  rw [hE] at hO
  dsimp only [clashV] at hF1 hF2 hF3 hO
  have hXW : ∀ V : World, Below W.heap.size W V → Boxes w V a len cap gap a' np cap' c np nc := fun V hV => hX.later hV
  have hne3 : w3.heap.size ≠ w.heap.size + 1 + 1 := by omega
  clear hL1 hL2 hL3 hTW hor hp1 hq1 hs1 hE h0 h1 h2 h3 h4
  have hF1' : Hid _ := hF1
  have hF2' : Hid _ := hF2
  have hF3' : Hid _ := hF3
  have hO' : Hid _ := hO
  have hSV' : Hid _ := hSV
  have hXW' : Hid _ := hXW
  clear hF1 hF2 hF3 hO hSV hXW
  refine wp_region_held_drew (S := (fun w' => w'.cell? ⟨w3.heap.size, 0, none⟩ = some (.slice a' np cap') ∧ w'.cell? ⟨w3.heap.size, 1, none⟩ = some (.slice c np nc) ∧ w'.cell? ⟨w3.heap.size, 2, none⟩ = some (.slice a len cap) ∧ w'.cell? ⟨w3.heap.size, 3, none⟩ = some (.map (some bT)) ∧ w'.cell? ⟨w3.heap.size, 4, none⟩ = some (.map (some bS)))) (by kernel_rfl) hS0 (fun hHeld => ?_)
  refine wpAnyH_take (i := 0) (oi := { dst := some 14, op := Go.Op.load 62 (Go.Operand.tmp 5), type := 62, pos := "l2_plan.go:47", after := #[], guard := none }) (v := ?vv0) rfl (by kernel_rfl) (by kernel_rfl) (by kernel_rfl) (fun _ _ _ h => h) (Or.inl ⟨by rfl, ?hy0⟩) (by assumption) ?rest0
  case hy0 =>
    intro w hSw
    (try dsimp only at hSw)
    go_simp
    (try with_reducible rfl)
  simp only [Act.put, List.setIfInBounds_toArray, List.set_cons_zero, List.set_cons_succ]
  refine wpAnyH_take (i := 1) (oi := { dst := some 15, op := Go.Op.load 62 (Go.Operand.tmp 5), type := 62, pos := "l2_plan.go:47", after := #[], guard := none }) (v := ?vv1) rfl (by kernel_rfl) (by kernel_rfl) (by kernel_rfl) (fun _ _ _ h => h) (Or.inl ⟨by rfl, ?hy1⟩) (by assumption) ?rest1
  case hy1 =>
    intro w hSw
    (try dsimp only at hSw)
    go_simp
    (try with_reducible rfl)
  simp only [Act.put, List.setIfInBounds_toArray, List.set_cons_zero, List.set_cons_succ]
  refine wpAnyH_take (i := 2) (oi := { dst := some 16, op := Go.Op.makeFunc (Go.Fn.func 26) #[Go.Operand.tmp 15] #[], type := 66, pos := "l2_plan.go:47", after := #[{ on := 1, ground := Go.Ground.data }], guard := none }) (v := ?vv2) rfl (by kernel_rfl) (by kernel_rfl) (by kernel_rfl) (fun _ _ _ h => h) (Or.inl ⟨by rfl, ?hy2⟩) (by assumption) ?rest2
  case hy2 =>
    intro w hSw
    (try dsimp only at hSw)
    go_simp
    (try with_reducible rfl)
  simp only [Act.put, List.setIfInBounds_toArray, List.set_cons_zero, List.set_cons_succ]
  refine wpAnyH_take (i := 4) (oi := { dst := some 18, op := Go.Op.load 62 (Go.Operand.tmp 5), type := 62, pos := "l2_plan.go:47", after := #[], guard := none }) (v := ?vv4) rfl (by kernel_rfl) (by kernel_rfl) (by kernel_rfl) (fun _ _ _ h => h) (Or.inl ⟨by rfl, ?hy4⟩) (by assumption) ?rest4
  case hy4 =>
    intro w hSw
    (try dsimp only at hSw)
    go_simp
    (try with_reducible rfl)
  simp only [Act.put, List.setIfInBounds_toArray, List.set_cons_zero, List.set_cons_succ]
  refine wpAnyH_take (i := 5) (oi := { dst := some 19, op := Go.Op.load 62 (Go.Operand.tmp 5), type := 62, pos := "l2_plan.go:47", after := #[], guard := none }) (v := ?vv5) rfl (by kernel_rfl) (by kernel_rfl) (by kernel_rfl) (fun _ _ _ h => h) (Or.inl ⟨by rfl, ?hy5⟩) (by assumption) ?rest5
  case hy5 =>
    intro w hSw
    (try dsimp only at hSw)
    go_simp
    (try with_reducible rfl)
  simp only [Act.put, List.setIfInBounds_toArray, List.set_cons_zero, List.set_cons_succ]
  refine wpAnyH_take (i := 6) (oi := { dst := some 20, op := Go.Op.makeFunc (Go.Fn.func 27) #[Go.Operand.tmp 19] #[], type := 66, pos := "l2_plan.go:47", after := #[{ on := 5, ground := Go.Ground.data }], guard := none }) (v := ?vv6) rfl (by kernel_rfl) (by kernel_rfl) (by kernel_rfl) (fun _ _ _ h => h) (Or.inl ⟨by rfl, ?hy6⟩) (by assumption) ?rest6
  case hy6 =>
    intro w hSw
    (try dsimp only at hSw)
    go_simp
    (try with_reducible rfl)
  simp only [Act.put, List.setIfInBounds_toArray, List.set_cons_zero, List.set_cons_succ]
  refine wpAnyH_take (i := 8) (oi := { dst := some 22, op := Go.Op.load 62 (Go.Operand.tmp 5), type := 62, pos := "l2_plan.go:47", after := #[], guard := none }) (v := ?vv8) rfl (by kernel_rfl) (by kernel_rfl) (by kernel_rfl) (fun _ _ _ h => h) (Or.inl ⟨by rfl, ?hy8⟩) (by assumption) ?rest8
  case hy8 =>
    intro w hSw
    (try dsimp only at hSw)
    go_simp
    (try with_reducible rfl)
  simp only [Act.put, List.setIfInBounds_toArray, List.set_cons_zero, List.set_cons_succ]
  refine wpAnyH_take (i := 9) (oi := { dst := some 23, op := Go.Op.load 62 (Go.Operand.tmp 5), type := 62, pos := "l2_plan.go:47", after := #[], guard := none }) (v := ?vv9) rfl (by kernel_rfl) (by kernel_rfl) (by kernel_rfl) (fun _ _ _ h => h) (Or.inl ⟨by rfl, ?hy9⟩) (by assumption) ?rest9
  case hy9 =>
    intro w hSw
    (try dsimp only at hSw)
    go_simp
    (try with_reducible rfl)
  simp only [Act.put, List.setIfInBounds_toArray, List.set_cons_zero, List.set_cons_succ]
  refine wpAnyH_take (i := 10) (oi := { dst := some 24, op := Go.Op.makeFunc (Go.Fn.func 28) #[Go.Operand.tmp 23] #[], type := 66, pos := "l2_plan.go:47", after := #[{ on := 9, ground := Go.Ground.data }], guard := none }) (v := ?vv10) rfl (by kernel_rfl) (by kernel_rfl) (by kernel_rfl) (fun _ _ _ h => h) (Or.inl ⟨by rfl, ?hy10⟩) (by assumption) ?rest10
  case hy10 =>
    intro w hSw
    (try dsimp only at hSw)
    go_simp
    (try with_reducible rfl)
  simp only [Act.put, List.setIfInBounds_toArray, List.set_cons_zero, List.set_cons_succ]
  refine wpAnyH_ready (rs := [3]) (by kernel_rfl) (by simp) ?_
  refine AllReadyH.cons (o := { dst := some 17, op := Go.Op.call { callee := Go.Callee.value (Go.Operand.func 25), args := #[Go.Operand.tmp 14, Go.Operand.tmp 16], argTypes := #[62, 66] }, type := 33, pos := "l2_plan.go:47", after := #[{ on := 0, ground := Go.Ground.data }, { on := 2, ground := Go.Ground.data }], guard := none }) rfl (fun K hK => ?_) AllReadyH.nil
  go_simp
  refine (hF1'.out _ hD0).mono ?_
  rintro _ V1 ⟨rfl, hB1⟩
  have hD1 := Below.join hD0 (Nat.le_refl _) hB1
  refine hK.out _ _ (hSV'.out _ hD1) (fun hHeld => ?_)
  clear hK K
  (try simp only [Act.put, List.setIfInBounds_toArray, List.set_cons_zero, List.set_cons_succ])
  refine wpAnyH_ready (rs := [7]) (by kernel_rfl) (by simp) ?_
  refine AllReadyH.cons (o := { dst := some 21, op := Go.Op.call { callee := Go.Callee.value (Go.Operand.func 25), args := #[Go.Operand.tmp 18, Go.Operand.tmp 20], argTypes := #[62, 66] }, type := 33, pos := "l2_plan.go:47", after := #[{ on := 4, ground := Go.Ground.data }, { on := 6, ground := Go.Ground.data }, { on := 3, ground := Go.Ground.chain }], guard := none }) rfl (fun K hK => ?_) AllReadyH.nil
  go_simp
  refine (hF2'.out _ hD1).mono ?_
  rintro _ V2 ⟨rfl, hB2⟩
  have hD2 := Below.join hD1 (Nat.le_refl _) hB2
  refine hK.out _ _ (hSV'.out _ hD2) (fun hHeld => ?_)
  clear hK K
  (try simp only [Act.put, List.setIfInBounds_toArray, List.set_cons_zero, List.set_cons_succ])
  refine wpAnyH_ready (rs := [11]) (by kernel_rfl) (by simp) ?_
  refine AllReadyH.cons (o := { dst := some 25, op := Go.Op.call { callee := Go.Callee.value (Go.Operand.func 25), args := #[Go.Operand.tmp 22, Go.Operand.tmp 24], argTypes := #[62, 66] }, type := 33, pos := "l2_plan.go:47", after := #[{ on := 8, ground := Go.Ground.data }, { on := 10, ground := Go.Ground.data }, { on := 7, ground := Go.Ground.chain }], guard := none }) rfl (fun K hK => ?_) AllReadyH.nil
  go_simp
  refine (hF3'.out _ hD2).mono ?_
  rintro _ V3 ⟨rfl, hB3⟩
  have hD3 := Below.join hD2 (Nat.le_refl _) hB3
  refine hK.out _ _ (hSV'.out _ hD3) (fun hHeld => ?_)
  clear hK K
  (try simp only [Act.put, List.setIfInBounds_toArray, List.set_cons_zero, List.set_cons_succ])
  refine wpAnyH_ready (rs := [12]) (by kernel_rfl) (by simp) ?_
  refine AllReadyH.cons (o := { dst := some 26, op := Go.Op.buildSlice 107 3 #[(0, Go.Operand.tmp 17), (1, Go.Operand.tmp 21), (2, Go.Operand.tmp 25)], type := 107, pos := "l2_plan.go:47", after := #[{ on := 3, ground := Go.Ground.data }, { on := 7, ground := Go.Ground.data }, { on := 11, ground := Go.Ground.data }], guard := none }) rfl (fun K hK => ?_) AllReadyH.nil
  go_simp
  have hD4 := Below.join hD3 (Nat.le_refl _) (b1 V3 (.cells #[.int .i64 p0, .int .i64 p1, .int .i64 p2, .int .i64 p3, .int .i64 q0, .int .i64 q1, .int .i64 q2, .int .i64 q3, .int .i64 s0, .int .i64 s1, .int .i64 s2, .int .i64 s3] 33))
  refine hK.out _ _ (hSV'.out _ hD4) (fun hHeld => ?_)
  clear hK K
  (try simp only [Act.put, List.setIfInBounds_toArray, List.set_cons_zero, List.set_cons_succ])
  refine wpAnyH_ready (rs := [13]) (by kernel_rfl) (by simp) ?_
  refine AllReadyH.cons (o := { dst := some 27, op := Go.Op.call { callee := Go.Callee.value (Go.Operand.func 24), args := #[Go.Operand.tmp 26], argTypes := #[107] }, type := 33, pos := "l2_plan.go:47", after := #[{ on := 12, ground := Go.Ground.data }, { on := 11, ground := Go.Ground.chain }], guard := none }) rfl (fun K hK => ?_) AllReadyH.nil
  go_simp
  refine (hO'.out _).mono ?_
  rintro _ V5 ⟨rfl, hB5⟩
  have hD5 := Below.join hD4 (Nat.le_refl _) hB5
  have hSe := hSV'.out _ hD5
  have hX5 := hXW'.out _ hD5
  have r0 := hX5.r0
  have r1 := hX5.r1
  have r2 := hX5.r2
  have r3 := hX5.r3
  have z0 := hX5.z0
  have z1 := hX5.z1
  have z2 := hX5.z2
  have z3 := hX5.z3
  refine hK.out _ _ hSe (fun hHeld => ?_)
  clear hK K
  (try simp only [Act.put, List.setIfInBounds_toArray, List.set_cons_zero, List.set_cons_succ])
  refine wpAnyH_ready (rs := [14]) (by kernel_rfl) (by simp) ?_
  refine AllReadyH.cons (o := { dst := none, op := Go.Op.store 33 (Go.Operand.tmp 4) (Go.Operand.tmp 27), type := 0, pos := "l2_plan.go:47", after := #[{ on := 13, ground := Go.Ground.data }, { on := 13, ground := Go.Ground.chain }, { on := 0, ground := Go.Ground.phase }, { on := 1, ground := Go.Ground.phase }, { on := 2, ground := Go.Ground.phase }, { on := 3, ground := Go.Ground.phase }, { on := 4, ground := Go.Ground.phase }, { on := 5, ground := Go.Ground.phase }, { on := 6, ground := Go.Ground.phase }, { on := 7, ground := Go.Ground.phase }, { on := 8, ground := Go.Ground.phase }, { on := 9, ground := Go.Ground.phase }, { on := 10, ground := Go.Ground.phase }, { on := 11, ground := Go.Ground.phase }, { on := 12, ground := Go.Ground.phase }, { on := 13, ground := Go.Ground.phase }], guard := none }) rfl (fun K hK => ?_) AllReadyH.nil
  go_simp
  have hSf := And.intro (set4_cell hSe.1 hne3 (.int .i64 e0) (.int .i64 e1) (.int .i64 e2) (.int .i64 e3)) (And.intro (set4_cell hSe.2.1 hne3 (.int .i64 e0) (.int .i64 e1) (.int .i64 e2) (.int .i64 e3)) (And.intro (set4_cell hSe.2.2.1 hne3 (.int .i64 e0) (.int .i64 e1) (.int .i64 e2) (.int .i64 e3)) (And.intro (set4_cell hSe.2.2.2.1 hne3 (.int .i64 e0) (.int .i64 e1) (.int .i64 e2) (.int .i64 e3)) (set4_cell hSe.2.2.2.2 hne3 (.int .i64 e0) (.int .i64 e1) (.int .i64 e2) (.int .i64 e3)))))
  refine hK.out _ _ hSf (fun hHeld => ?_)
  clear hK K
  (try simp only [Act.put, List.setIfInBounds_toArray, List.set_cons_zero, List.set_cons_succ])
  refine wpAnyH_done (by kernel_rfl) ?_ _
  all_goals
    go_wp2
    refine bodyPost_ret (v := .agg #[.int .i64 e0, .int .i64 e1, .int .i64 e2, .int .i64 e3]) (by simp [results, Tryz.results7, go_sem, r0, r1, r2, r3]) rfl ⟨rfl, ?_⟩
    exact below_set4 (Below.join hB (Nat.le_refl _) hD5) (by omega) _ _ _ _
end Go.Proofs.YtelickcfodcmaaaGreatDoor

namespace Go.Proofs.YtelickcfodcmaaaGreatDoor
open Go.RowKit

theorem firstBad_congr {p q : Nat → Bool} : ∀ {n : Nat}, (∀ j, j < n → p j = q j) → firstBad p n = firstBad q n
  | 0, _ => rfl
  | n + 1, h => by rw [firstBad, firstBad, firstBad_congr (n := n) (fun j hj => h j (by omega)), h n (by omega)]
theorem firstBad_spec {p : Nat → Bool} : ∀ {n k : Nat}, firstBad p n = some k → k < n ∧ p k = false
  | n + 1, k, h => by
    rw [firstBad] at h
    cases hF : firstBad p n with
    | some i =>
      rw [hF] at h
      obtain ⟨h1, h2⟩ := firstBad_spec hF
      cases h
      exact ⟨by omega, h2⟩
    | none =>
      rw [hF] at h
      cases hp : p n with
      | true => rw [hp] at h; cases h
      | false =>
        rw [hp] at h
        simp at h
        subst h
        exact ⟨by omega, hp⟩
theorem first2_congr {n : Nat} {len : Nat → Nat} {p q : Nat → Nat → Bool} (h : ∀ i, i < n → ∀ k, k < len i → p i k = q i k) : first2 n len p = first2 n len q := by
  have h1 : ∀ i, i < n → firstBad (p i) (len i) = firstBad (q i) (len i) := fun i hi => firstBad_congr (h i hi)
  have h2 : firstBad (fun i => (firstBad (p i) (len i)).isNone) n = firstBad (fun i => (firstBad (q i) (len i)).isNone) n := firstBad_congr (fun i hi => by rw [h1 i hi])
  unfold first2
  rw [h2]
  cases hF : firstBad (fun i => (firstBad (q i) (len i)).isNone) n with
  | none => rfl
  | some i =>
    obtain ⟨hi, _⟩ := firstBad_spec hF
    simp only [h1 i hi]
theorem first2_spec {n : Nat} {len : Nat → Nat} {p : Nat → Nat → Bool} {i k : Nat} (h : first2 n len p = some (i, k)) : i < n ∧ k < len i ∧ p i k = false := by
  unfold first2 at h
  cases hF : firstBad (fun i => (firstBad (p i) (len i)).isNone) n with
  | none => rw [hF] at h; cases h
  | some j =>
    rw [hF] at h
    simp only at h
    cases hG : firstBad (p j) (len j) with
    | none => rw [hG] at h; cases h
    | some m =>
      rw [hG] at h
      cases h
      exact ⟨(firstBad_spec hF).1, firstBad_spec hG⟩
theorem first2_all {n : Nat} {len : Nat → Nat} {p : Nat → Nat → Bool} (h : first2 n len p = none) : ∀ i, i < n → ∀ k, k < len i → p i k = true := by
  intro i hi k hk
  unfold first2 at h
  cases hF : firstBad (fun i => (firstBad (p i) (len i)).isNone) n with
  | none =>
    have h1 := firstBad_all hF i hi
    exact firstBad_all (Option.isNone_iff_eq_none.1 h1) k hk
  | some j =>
    rw [hF] at h
    simp only at h
    have h2 := (firstBad_spec hF).2
    cases hG : firstBad (p j) (len j) with
    | none => rw [hG] at h2; cases h2
    | some m => rw [hG] at h; cases h

theorem takenC_eq (gap : Int) (np : Nat) (f : Nat → TrainD) (P : Nat → RowD) (i k : Nat) : takenC gap np f P i k = match withOf gap np f P i k with | some j => (3, (i : Int), (k : Int), (j : Int)) | none => (0, 0, 0, 0) := by
  unfold takenC
  cases hF : (listT gap np f P (trackOf (f i) k)).find? (hitB i ((P i).s k)) with
  | none =>
    rw [withOf_list_none (fun x hx => by have := List.find?_eq_none.1 hF x hx; simpa using this)]
  | some h =>
    obtain ⟨hp, L1, L2, e, hn⟩ := List.find?_eq_some_iff_append.1 hF
    rw [withOf_list_some e hp (fun y hy => by have := hn y hy; simpa using this)]

theorem leaves_ge {len np : Nat} {f : Nat → TrainD} {P : Nat → RowD} (hR : RightL len np f) (hQ : RightP np f np P) (h2 : ∀ i, i < np → ∀ k, k < (f i).nl → readyOf f P i k ≤ (P i).s k) {i : Nat} (hi : i < np) : ∀ m, m < (f i).nl → (P i).s m ≤ leavesOf f P i m := by
  intro m hm
  have h1 := (hR.train i hi).leg m hm
  unfold leavesOf
  rw [hQ.row i hi]
  split
  · rename_i hlt
    have h3 := h2 i hi (m + 1) hlt
    have h4 := (hR.train i hi).leg (m + 1) hlt
    simp only [readyOf] at h3
    omega
  · omega

theorem orC_clash {len np : Nat} {g : Nat → Int} {gap : Int} {f : Nat → TrainD} {P : Nat → RowD} (hF : faultOf len g gap np f = (0, 0)) (hS : shapeB np f np P = true) : orC (three g gap np f P) = clashOf len g gap np f np P := by
  have hR := rightL_of hF
  have hQ := rightP_of hS
  unfold clashOf
  rw [if_pos ⟨by rw [hF], hS⟩]
  have eA : ∀ i k, decide ((soonC f P i k).1 = 0) = decide (readyOf f P i k ≤ (P i).s k) := fun i k => by
    unfold soonC
    split
    · rw [decide_eq_false (by simp), decide_eq_false (by omega)]
    · rw [decide_eq_true (by simp), decide_eq_true (by omega)]
  have eB : ∀ i k, decide ((takenC gap np f P i k).1 = 0) = (withOf gap np f P i k).isNone := fun i k => by
    rw [takenC_eq]
    cases withOf gap np f P i k <;> simp
  have hA : first2 np (fun i => (f i).nl) (fun i k => decide ((soonC f P i k).1 = 0)) = first2 np (fun i => (f i).nl) (fun i k => decide (readyOf f P i k ≤ (P i).s k)) := first2_congr (fun i _ k _ => eA i k)
  have hB : first2 np (fun i => (f i).nl) (fun i k => decide ((takenC gap np f P i k).1 = 0)) = first2 np (fun i => (f i).nl) (fun i k => (withOf gap np f P i k).isNone) := first2_congr (fun i _ k _ => eB i k)
  unfold orC three
  simp only [tri]
  cases h2 : first2 np (fun i => (f i).nl) (fun i k => decide (readyOf f P i k ≤ (P i).s k)) with
  | some ik =>
    obtain ⟨i, k⟩ := ik
    have hb := (first2_spec h2).2.2
    have e : firstC np (fun i => (f i).nl) (soonC f P) = (2, (i : Int), (k : Int), 0) := by
      unfold firstC
      rw [hA, h2]
      simp only
      unfold soonC
      rw [if_pos (by have := of_decide_eq_false hb; omega)]
    rw [e]
    simp
  | none =>
    have hall := first2_all h2
    have e : firstC np (fun i => (f i).nl) (soonC f P) = (0, 0, 0, 0) := by
      unfold firstC
      rw [hA, h2]
    rw [e]
    simp only [ne_eq, not_true_eq_false, if_false]
    cases h3 : first2 np (fun i => (f i).nl) (fun i k => (withOf gap np f P i k).isNone) with
    | some ik =>
      obtain ⟨i, k⟩ := ik
      have hb := (first2_spec h3).2.2
      have e : firstC np (fun i => (f i).nl) (takenC gap np f P) = (3, (i : Int), (k : Int), (((withOf gap np f P i k).getD 0 : Nat) : Int)) := by
        unfold firstC
        rw [hB, h3]
        simp only
        rw [takenC_eq]
        cases hw : withOf gap np f P i k with
        | none => rw [hw] at hb; cases hb
        | some j => rfl
      rw [e]
      simp
    | none =>
      have e : firstC np (fun i => (f i).nl) (takenC gap np f P) = (0, 0, 0, 0) := by
        unfold firstC
        rw [hB, h3]
      rw [e]
      simp only [not_true_eq_false, if_false]
      have eC : ∀ i, i < np → ∀ k, k < (f i).nl → fullC g np f P i k = if fullB g np f P i k = true then (4, (i : Int), (k : Int), 0) else (0, 0, 0, 0) := fun i hi k hk => by
        have hc := countAll_list (k := k) (leaves_ge hR hQ (fun i hi k hk => of_decide_eq_true (hall i hi k hk)) hi) np
        unfold fullC fullB listS
        rw [hc]
        simp only [decide_eq_true_eq]
      have hC : first2 np (fun i => (f i).nl) (fun i k => decide ((fullC g np f P i k).1 = 0)) = first2 np (fun i => (f i).nl) (fun i k => !fullB g np f P i k) := first2_congr (fun i hi k hk => by
        rw [eC i hi k hk]
        cases fullB g np f P i k <;> simp)
      cases h4 : first2 np (fun i => (f i).nl) (fun i k => !fullB g np f P i k) with
      | some ik =>
        obtain ⟨i, k⟩ := ik
        obtain ⟨hi, hk, hb⟩ := first2_spec h4
        have e : firstC np (fun i => (f i).nl) (fullC g np f P) = (4, (i : Int), (k : Int), 0) := by
          unfold firstC
          rw [hC, h4]
          simp only
          rw [eC i hi k hk, if_pos (by simpa using hb)]
        rw [e]
        simp
      | none =>
        have e : firstC np (fun i => (f i).nl) (fullC g np f P) = (0, 0, 0, 0) := by
          unfold firstC
          rw [hC, h4]
        rw [e]
        simp

theorem clashOf_no {nt : Nat} {g : Nat → Int} {gap : Int} {ntr : Nat} {f : Nat → TrainD} {np : Nat} {P : Nat → RowD} (h : ¬ ((faultOf nt g gap ntr f).1 = 0 ∧ shapeB ntr f np P = true)) : clashOf nt g gap ntr f np P = (1, 0, 0, 0) := by
  unfold clashOf; rw [if_neg h]

set_option maxRecDepth 20000 in
set_option maxHeartbeats 4000000 in
theorem implCheck_line (a : Option Addr) (len cap : Nat) (g : Nat → Int) (gap : Int) (a' : Option Addr) (len' cap' : Nat) (f : Nat → TrainD) (c : Option Addr) (np nc : Nat) (w : World) (hl : len ≤ 1048576) (hl' : len' ≤ 1048576) (hml : ∀ j, j < len' → (f j).nl ≤ 1048576)
    (hI : IsInts 0 w.heap.size w a len g) (hT : IsTrains 0 w.heap.size w a' len' f) (hg : w.cell? ⟨0, 0, none⟩ = some (.iface 234 (.agg #[.pointer (some ⟨1, 165, none⟩)]))) (hF : Hid ((faultOf len g gap len' f).1 ≠ 0)) :
    Calls Tryz.prog 7 #[.agg #[.slice a len cap, .int .i64 gap, .slice a' len' cap'], .agg #[.slice c np nc]] w fun e w' => e = .returned (.agg #[.int .i64 1, .int .i64 0, .int .i64 0, .int .i64 0]) ∧ Below w.heap.size w w' := by
  have hX := Boxes.new w a len cap gap a' len' cap' c np nc 26 30 33
  have hg1 := cellLater (b3 w (.cells #[.slice a len cap, .int .i64 gap, .slice a' len' cap'] 26) (.cells #[.slice c np nc] 30) (.cells #[.int .i64 0, .int .i64 0, .int .i64 0, .int .i64 0] 33)) hg
  go_enter Tryz.func7, Tryz.ntmps7
  go_wp2_with (go_at_call 22; refine (hasShape_no _ _ _ g _ _ _ _ f _ _ _ _ hl hl' hml (hI.grow (b3 _ _ _ _)) (hT.grow (b3 _ _ _ _)) hg1 hF).mono ?_; rintro _ w2 ⟨rfl, hB2⟩; have hB := Below.join (b3 w _ _ _) (Nat.le_refl _) hB2; replace hX := hX.later hB2; have r0 := hX.r0; have r1 := hX.r1; have r2 := hX.r2; have r3 := hX.r3; have z0 := hX.z0; have z1 := hX.z1; have z2 := hX.z2; have z3 := hX.z3)
  refine bodyPost_ret (v := .agg #[.int .i64 1, .int .i64 0, .int .i64 0, .int .i64 0]) (by simp [results, Tryz.results7, go_sem, r0, r1, r2, r3]) rfl ⟨rfl, ?_⟩
  exact below_set4 hB (by omega) _ _ _ _

set_option maxRecDepth 20000 in
set_option maxHeartbeats 4000000 in
theorem implCheck_shape (a : Option Addr) (len cap : Nat) (g : Nat → Int) (gap : Int) (a' : Option Addr) (len' cap' : Nat) (f : Nat → TrainD) (c : Option Addr) (np nc : Nat) (P : Nat → RowD) (w : World) (hl : len ≤ 1048576) (hl' : len' ≤ 1048576) (hml : ∀ j, j < len' → (f j).nl ≤ 1048576) (hp : np ≤ 1048576) (hmp : ∀ j, j < np → (P j).n ≤ 1048576)
    (hI : IsInts 0 w.heap.size w a len g) (hT : IsTrains 0 w.heap.size w a' len' f) (hP : IsRows 0 w.heap.size w c np P) (hg : w.cell? ⟨0, 0, none⟩ = some (.iface 234 (.agg #[.pointer (some ⟨1, 165, none⟩)]))) (hF : Hid (faultOf len g gap len' f = (0, 0))) (hS : shapeB len' f np P = false) :
    Calls Tryz.prog 7 #[.agg #[.slice a len cap, .int .i64 gap, .slice a' len' cap'], .agg #[.slice c np nc]] w fun e w' => e = .returned (.agg #[.int .i64 1, .int .i64 0, .int .i64 0, .int .i64 0]) ∧ Below w.heap.size w w' := by
  have hX := Boxes.new w a len cap gap a' len' cap' c np nc 26 30 33
  have hg1 := cellLater (b3 w (.cells #[.slice a len cap, .int .i64 gap, .slice a' len' cap'] 26) (.cells #[.slice c np nc] 30) (.cells #[.int .i64 0, .int .i64 0, .int .i64 0, .int .i64 0] 33)) hg
  go_enter Tryz.func7, Tryz.ntmps7
  go_wp2_with (go_at_call 22; refine (hasShape_yes _ _ _ g _ _ _ _ f _ _ _ P _ hl hl' hp hml hmp (hI.grow (b3 _ _ _ _)) (hT.grow (b3 _ _ _ _)) (hP.grow (b3 _ _ _ _)) hg1 hF).mono ?_; rw [hS]; rintro _ w2 ⟨rfl, hB2⟩; have hB := Below.join (b3 w _ _ _) (Nat.le_refl _) hB2; replace hX := hX.later hB2; have r0 := hX.r0; have r1 := hX.r1; have r2 := hX.r2; have r3 := hX.r3; have z0 := hX.z0; have z1 := hX.z1; have z2 := hX.z2; have z3 := hX.z3)
  refine bodyPost_ret (v := .agg #[.int .i64 1, .int .i64 0, .int .i64 0, .int .i64 0]) (by simp [results, Tryz.results7, go_sem, r0, r1, r2, r3]) rfl ⟨rfl, ?_⟩
  exact below_set4 hB (by omega) _ _ _ _

/-- the program's Check -/
theorem implCheck_any (a : Option Addr) (len cap : Nat) (g : Nat → Int) (gap : Int) (a' : Option Addr) (len' cap' : Nat) (f : Nat → TrainD) (c : Option Addr) (np nc : Nat) (P : Nat → RowD) (w : World) (hl : len ≤ 1048576) (hl' : len' ≤ 1048576) (hml : ∀ j, j < len' → (f j).nl ≤ 1048576) (hp : np ≤ 1048576) (hmp : ∀ j, j < np → (P j).n ≤ 1048576)
    (hI : IsInts 0 w.heap.size w a len g) (hT : IsTrains 0 w.heap.size w a' len' f) (hP : IsRows 0 w.heap.size w c np P) (hC : Caps w c np) (hg : w.cell? ⟨0, 0, none⟩ = some (.iface 234 (.agg #[.pointer (some ⟨1, 165, none⟩)]))) :
    Calls Tryz.prog 7 #[.agg #[.slice a len cap, .int .i64 gap, .slice a' len' cap'], .agg #[.slice c np nc]] w fun e w' => e = .returned (clashV (clashOf len g gap len' f np P)) ∧ Below w.heap.size w w' := by
  by_cases hF : (faultOf len g gap len' f).1 = 0
  · have hF0 := faultOf_snd hF
    cases hS : shapeB len' f np P
    · rw [clashOf_no (by simp [hS])]
      exact implCheck_shape a len cap g gap a' len' cap' f c np nc P w hl hl' hml hp hmp hI hT hP hg hF0 hS
    · obtain rfl : np = len' := (rightP_of hS).np
      have h := implCheck_main a len cap g gap a' np cap' f c nc P w hl hp hml hmp hI hT hP hC hg hF0 hS
      rw [orC_clash hF0 hS] at h
      exact h
  · rw [clashOf_no (by simp [hF])]
    exact implCheck_line a len cap g gap a' len' cap' f c np nc w hl hl' hml hI hT hg hF
end Go.Proofs.YtelickcfodcmaaaGreatDoor

namespace Go.Proofs.YtelickcfodcmaaaGreatDoor
open Go.RowKit

theorem sum_le {f : Nat → TrainD} {P : Nat → RowD} : ∀ {n : Nat}, (∀ j, j < n → (P j).n ≤ (f j).nl) → rowSumQ P n ≤ legSum f n
  | 0, _ => Nat.le_refl _
  | n + 1, h => by
    have h1 := sum_le (n := n) (fun j hj => h j (by omega))
    have h2 := h n (by omega)
    simp only [rowSumQ, legSum]; omega
theorem sum_eq {f : Nat → TrainD} {P : Nat → RowD} : ∀ {n : Nat}, (∀ j, j < n → (P j).n ≤ (f j).nl) → (rowSumQ P n = legSum f n ↔ ∀ j, j < n → (P j).n = (f j).nl)
  | 0, _ => ⟨fun _ j hj => absurd hj (Nat.not_lt_zero j), fun _ => rfl⟩
  | n + 1, h => by
    have ih := sum_eq (n := n) (fun j hj => h j (by omega))
    have h1 := sum_le (n := n) (fun j hj => h j (by omega))
    have h2 := h n (by omega)
    simp only [rowSumQ, legSum]
    constructor
    · intro e j hj
      rcases Nat.lt_or_ge j n with h3 | h3
      · exact ih.1 (by omega) j h3
      · obtain rfl : j = n := by omega
        omega
    · intro e
      have h3 := ih.2 (fun j hj => e j (by omega))
      have h4 := e n (by omega)
      omega
theorem moreB_no {np : Nat} {f : Nat → TrainD} {P : Nat → RowD} (hle : ∀ j, j < np → (P j).n ≤ (f j).nl) : (∀ j : Nat, j < np → moreB np f P (j : Int) = false) ↔ rowSumQ P np = legSum f np := by
  rw [sum_eq hle]
  constructor
  · intro h j hj
    have h1 := h j hj
    unfold moreB at h1
    have e1 : inB (j : Int) 0 ((np : Int) - 1) = true := decide_eq_true ⟨by omega, by omega⟩
    rw [e1, Int.toNat_natCast, Bool.true_and] at h1
    have := of_decide_eq_false h1
    have := hle j hj
    omega
  · intro h j hj
    unfold moreB
    rw [Int.toNat_natCast, decide_eq_false (by have := h j hj; omega), Bool.and_false]

set_option maxRecDepth 20000 in
set_option maxHeartbeats 4000000 in
theorem implPlace_line (a : Option Addr) (len cap : Nat) (g : Nat → Int) (gap : Int) (a' : Option Addr) (np cap' : Nat) (f : Nat → TrainD) (oa : Option Addr) (no oc : Nat) (o : Nat → Int) (w : World) (hl : len ≤ 1048576) (hl' : np ≤ 1048576) (hml : ∀ j, j < np → (f j).nl ≤ 1048576)
    (hI : IsInts 0 w.heap.size w a len g) (hT : IsTrains 0 w.heap.size w a' np f) (hno : no ≤ 1048576) (hg : w.cell? ⟨0, 0, none⟩ = some (.iface 234 (.agg #[.pointer (some ⟨1, 165, none⟩)]))) (hbad : ¬ ((faultOf len g gap np f).1 = 0 ∧ no ≤ 10)) :
    Calls Tryz.prog 11 #[.agg #[.slice a len cap, .int .i64 gap, .slice a' np cap'], .slice oa no oc] w fun e w' => (∃ v, e = .returned v ∧ IsPlaced w.heap.size w' (placeSt len g gap np f no o) np v) ∧ Below w.heap.size w w' := by
  have hst : placeSt len g gap np f no o = ⟨1, 0, fun _ => ⟨0, fun _ => 0⟩, 0⟩ := by unfold placeSt; rw [if_neg hbad]
  rw [hst]
  have hN := b2 w (.cells #[.slice a len cap, .int .i64 gap, .slice a' np cap'] 26) (.cells #[.int .i64 0, .int .i64 0, .slice none 0 0] 38)
  obtain ⟨⟨y0, y1, y2⟩, hRm⟩ := box31 w a len cap gap a' np cap' 26 38
  have lR : w.heap.size + 1 < ((w.alloc (.cells #[.slice a len cap, .int .i64 gap, .slice a' np cap'] 26)).alloc (.cells #[.int .i64 0, .int .i64 0, .slice none 0 0] 38)).heap.size := by simp
  by_cases hF : (faultOf len g gap np f).1 = 0
  · have hn : ¬ no ≤ 10 := fun h => hbad ⟨hF, h⟩
    have hn' : (10 : Int) < (no : Int) := by omega
    have hok := isRight_yes a len cap g gap a' np cap' f _ hl hl' hml (hI.grow hN) (hT.grow hN) (cellLater hN hg) (faultOf_snd hF)
    go_enter Tryz.func11, Tryz.ntmps11
    go_wp2_with (go_at_call 40; refine hok.mono ?_; rintro _ w2 ⟨rfl, hB2⟩; obtain ⟨v0, m0, z0⟩ := (hRm.below hB2 lR) 0 (by omega); obtain ⟨v1, m1, z1⟩ := (hRm.below hB2 lR) 1 (by omega); obtain ⟨v2, m2, z2⟩ := (hRm.below hB2 lR) 2 (by omega))
    refine bodyPost_ret (v := .agg #[.int .i64 1, .int .i64 0, .slice none 0 0]) (by simp [results, Tryz.results11, go_sem, m0, m1, m2]) rfl ⟨⟨_, rfl, .slice none 0 0, rfl, fun _ => rfl, fun h => by simp at h⟩, ?_⟩
    exact below_set3 (Below.join hN (Nat.le_refl _) hB2) (by omega) _ _ _
  · have hok := isRight_no a len cap g gap a' np cap' f _ hl hl' hml (hI.grow hN) (hT.grow hN) (cellLater hN hg) hF
    go_enter Tryz.func11, Tryz.ntmps11
    go_wp2_with (go_at_call 40; refine hok.mono ?_; rintro _ w2 ⟨rfl, hB2⟩; obtain ⟨v0, m0, z0⟩ := (hRm.below hB2 lR) 0 (by omega); obtain ⟨v1, m1, z1⟩ := (hRm.below hB2 lR) 1 (by omega); obtain ⟨v2, m2, z2⟩ := (hRm.below hB2 lR) 2 (by omega))
    refine bodyPost_ret (v := .agg #[.int .i64 1, .int .i64 0, .slice none 0 0]) (by simp [results, Tryz.results11, go_sem, m0, m1, m2]) rfl ⟨⟨_, rfl, .slice none 0 0, rfl, fun _ => rfl, fun h => by simp at h⟩, ?_⟩
    exact below_set3 (Below.join hN (Nat.le_refl _) hB2) (by omega) _ _ _
end Go.Proofs.YtelickcfodcmaaaGreatDoor

namespace Go.Proofs.YtelickcfodcmaaaGreatDoor
open Go.RowKit

/-- a train, so much later -/
def laterL (by_ : Int) (t : TrL) : TrL := ⟨t.frm, t.ready + by_, t.due + by_, t.weight, t.legs⟩
/-- the line in the making: its box at block bl, its trains above B1 -/
structure WlI (w : World) (bl B1 : Nat) (tr : List Int) (gap : Int) (L : List TrV) (vt vT : Value) (W : World) : Prop where
  c0 : W.cell? ⟨bl, 0, none⟩ = some vt
  c1 : W.cell? ⟨bl, 1, none⟩ = some (.int .i64 gap)
  c2 : W.cell? ⟨bl, 2, none⟩ = some vT
  z2 : W.frozen? ⟨bl, 2, none⟩ = false
  ints : W.ownsRow (w.heap.size + 2) 3 1 vt tr.length (intCells tr)
  trs : OwnT B1 W vT L
  vtl : ∀ k, vt.ownBlock = some k → k < B1 ∧ k ≠ bl
  lt : bl < B1
  lo : w.heap.size + 2 ≤ bl
  room : Room (w.heap.size + 1) 3 W
  below : Below w.heap.size w W
  sz : B1 ≤ W.heap.size
theorem new5w (w : World) (x y z u r : Value) (t : TypeId) : (w.alloc (.cells #[x, y, z, u, r] t)).cell? ⟨w.heap.size, 0, none⟩ = some x ∧ (w.alloc (.cells #[x, y, z, u, r] t)).cell? ⟨w.heap.size, 1, none⟩ = some y ∧ (w.alloc (.cells #[x, y, z, u, r] t)).cell? ⟨w.heap.size, 2, none⟩ = some z ∧ (w.alloc (.cells #[x, y, z, u, r] t)).cell? ⟨w.heap.size, 3, none⟩ = some u ∧ (w.alloc (.cells #[x, y, z, u, r] t)).cell? ⟨w.heap.size, 4, none⟩ = some r := by simp
theorem frozen_new (w : World) (o : Nat) (cs : Array Value) (t : TypeId) : (w.alloc (.cells cs t)).frozen? ⟨w.heap.size, o, none⟩ = false := by simp
theorem legCells_lenW (L : List LegD) : (legCells L).length = L.length * 3 := by
  induction L with
  | nil => rfl
  | cons g r ih =>
    simp only [legCells, List.flatMap_cons, List.length_append, List.length_cons, List.length_nil] at ih ⊢
    omega
theorem legCells_oneW (L : List LegD) : ∀ u ∈ legCells L, u.oneCell' = true := by
  intro u hu
  simp only [legCells, List.mem_flatMap, List.mem_cons, List.not_mem_nil, or_false] at hu
  obtain ⟨g, _, rfl | rfl | rfl⟩ := hu <;> rfl
theorem legs_lieW {W : World} {b o n0 : Nat} {L : List LegD} (h : IsLegs 0 n0 W (some ⟨b, o, none⟩) L.length (fun m => L.getD m ⟨0, 0, 0⟩)) : ∀ (j : Nat) (u : Value), (legCells L)[j]? = some u → W.cell? ⟨b, o + j, none⟩ = some u := by
  intro j u hj
  have hjl : j < (legCells L).length := (List.getElem?_eq_some_iff.1 hj).1
  rw [legCells_lenW] at hjl
  obtain ⟨m, r, rfl, hr⟩ : ∃ m r, j = m * 3 + r ∧ r < 3 := ⟨j / 3, j % 3, by omega, by omega⟩
  have hm : m < L.length := by omega
  obtain ⟨b', o', e, _, _, c0, c1, c2⟩ := h m hm
  cases e
  obtain ⟨a0, a1, a2⟩ := legCells_at L m (L.getD m ⟨0, 0, 0⟩) (by rw [List.getD_eq_getElem?_getD, List.getElem?_eq_getElem hm]; rfl)
  rcases (by omega : r = 0 ∨ r = 1 ∨ r = 2) with rfl | rfl | rfl
  · rw [Nat.add_zero] at hj ⊢; rw [a0] at hj; cases hj; exact c0
  · rw [a1] at hj; cases hj; rw [← Nat.add_assoc]; exact c1
  · rw [a2] at hj; cases hj; rw [← Nat.add_assoc]; exact c2
/-- one train more -/
theorem WlI.step {w wr Y W2 : World} {bl B1 : Nat} {tr : List Int} {gap : Int} {L : List TrV} {vt vT v' : Value} {t : TrL} {lv : Value} (h : WlI w bl B1 tr gap L vt vT wr) (hY : Below wr.heap.size wr Y) (hl : OwnLegs B1 Y lv t.legs) (hn : ∀ k, lv.ownBlock = some k → wr.heap.size ≤ k)
    (ho : W2.ownsRow B1 72 5 v' (L.length + 1) (trCells L ++ [.int .i64 t.frm, .int .i64 t.ready, .int .i64 t.due, .int .i64 t.weight, lv])) (hg : Y.grownBy W2 vT.ownBlock) (hloc : v'.ownBlock = vT.ownBlock ∨ v'.ownBlock = some Y.heap.size) :
    WlI w bl B1 tr gap (L ++ [(t, lv)]) vt v' (W2.setCell ⟨bl, 2, none⟩ v') ∧ W2.cell? ⟨bl, 2, none⟩ = some vT ∧ W2.frozen? ⟨bl, 2, none⟩ = false := by
  have hlt := h.lt
  have hsz := h.sz
  have hlo := h.lo
  have hYs := hY.size
  have hlb : bl < wr.heap.size := ltCell h.c0
  have hvT : ∀ k, vT.ownBlock = some k → B1 ≤ k := fun k hk => (h.trs.lt (Or.inl hk)).1
  have hk : ∀ k, k < wr.heap.size → k < B1 → W2.heap[k]? = wr.heap[k]? := fun k hkw hkb => (hg.block k (by omega) (fun e => by have := hvT k e.symm; omega)).trans (hY.block k hkw)
  have hb := hk bl hlb hlt
  have cc : ∀ o u, wr.cell? ⟨bl, o, none⟩ = some u → W2.cell? ⟨bl, o, none⟩ = some u := fun o u hu => (World.cell?_of_block (w := wr) (a := ⟨bl, o, none⟩) hb).trans hu
  have zz : ∀ o, wr.frozen? ⟨bl, o, none⟩ = false → W2.frozen? ⟨bl, o, none⟩ = false := fun o hu => (World.frozen?_of_block (w := wr) (a := ⟨bl, o, none⟩) hb).trans hu
  have hi2 : W2.ownsRow (w.heap.size + 2) 3 1 vt tr.length (intCells tr) := ownsRow_same h.ints (fun k hkk => hk k (h.ints.lt k hkk).2 (h.vtl k hkk).1)
  refine ⟨⟨(cell_set_ne (by decide)).trans (cc 0 _ h.c0), (cell_set_ne (by decide)).trans (cc 1 _ h.c1), World.cell?_setCell_same _ _ _ (cc 2 _ h.c2), by rw [World.frozen?_setCell]; exact zz 2 h.z2, ?_, ?_, h.vtl, hlt, hlo, ?_, ?_, ?_⟩, cc 2 _ h.c2, zz 2 h.z2⟩
  · exact ownsRow_same hi2 (fun k hkk => Below.heap_setCell W2 ⟨bl, 2, none⟩ _ k (h.vtl k hkk).2)
  · exact ((h.trs.later hY).snoc ho hl (fun x hx k hkx e => by have := (h.trs.lt (Or.inr ⟨x, hx, hkx⟩)).2; have := hn k e; omega) (fun k hkl e => by have := (h.trs.lt (Or.inl e)).2; have := hn k hkl; omega) hg hloc).set (p := ⟨bl, 2, none⟩) hlt _
  · exact (Room.grown (h.room.below hY (by omega)) hg (fun k hkk e => by have := hvT k hkk; omega)).set ⟨bl, 2, none⟩ _
  · exact (below_grown (Below.join h.below (Nat.le_refl _) hY) hg (by have := h.below.size; omega) (fun k hkk => by have := hvT k hkk; omega)).setCell (p := ⟨bl, 2, none⟩) (by dsimp only; omega) _
  · rw [World.size_setCell]; have := hg.size; omega
theorem WlI.new {w Y : World} {bl : Nat} {tr : List Int} {gap : Int} {vt : Value} (c0 : Y.cell? ⟨bl, 0, none⟩ = some vt) (c1 : Y.cell? ⟨bl, 1, none⟩ = some (.int .i64 gap)) (c2 : Y.cell? ⟨bl, 2, none⟩ = some (.slice none 0 0)) (z2 : Y.frozen? ⟨bl, 2, none⟩ = false)
    (hi : Y.ownsRow (w.heap.size + 2) 3 1 vt tr.length (intCells tr)) (hv : vt.ownBlock ≠ some bl) (lo : w.heap.size + 2 ≤ bl) (room : Room (w.heap.size + 1) 3 Y) (hB : Below w.heap.size w Y) : WlI w bl Y.heap.size tr gap [] vt (.slice none 0 0) Y :=
  ⟨c0, c1, c2, z2, hi, OwnT.nil _ _, fun k hk => ⟨(hi.lt k hk).2, fun e => hv (by rw [hk, e])⟩, ltCell c0, lo, room, hB, Nat.le_refl _⟩
theorem WlI.own {w W : World} {bl B1 : Nat} {tr : List Int} {gap : Int} {L : List TrV} {vt vT : Value} (h : WlI w bl B1 tr gap L vt vT W) : LOwn (w.heap.size + 2) W tr L vt vT := by
  have h1 := h.lt
  have h2 := h.lo
  refine ⟨h.ints, h.trs.low (by omega), fun k hk e => ?_, fun x hx k hk e => ?_⟩
  · have := (h.vtl k hk).1; have := (h.trs.lt (Or.inl e)).1; omega
  · have := (h.vtl k hk).1; have := (h.trs.lt (Or.inr ⟨x, hx, e⟩)).1; omega
theorem tracks_append (X : World) (e base n0 ba oa cap : Nat) (tr : List Int) (hE : X.heap[e]? = some (.cells #[] 3)) (hb : base ≤ e) (hX : base ≤ X.heap.size) (hl : tr.length ≤ 100) (hI : IsInts 0 n0 X (some ⟨ba, oa, none⟩) tr.length (gI tr)) :
    ∃ vt X2, (Builtin.append_ #[23, 23] 23 #[.slice (some ⟨e, 0, none⟩) 0 0, .slice (some ⟨ba, oa, none⟩) tr.length cap]).run Tryz.prog X = .ok vt X2 ∧ X2.ownsRow base 3 1 vt tr.length (intCells tr) ∧ X.grownBy X2 (some e) ∧ (vt.ownBlock = some e ∨ vt.ownBlock = some X.heap.size) := by
  obtain ⟨i0, ii, iz0, iz1, iz2⟩ := info3 Tryz.infoInt
  obtain ⟨vt, X2, h1, h2, h3, _, h5⟩ := run_append_own_at (P := Tryz.prog) X base 23 23 3 i0 _ 1 8 Tryz.underlying23 ii iz0 iz1 iz2 rfl (by decide) (.slice (some ⟨e, 0, none⟩) 0 0) 0 [] ⟨rfl, Or.inr ⟨e, 0, #[], rfl, hb, hE, Nat.le_refl _, Nat.zero_le _, rfl, rfl⟩⟩ ⟨ba, oa, none⟩ tr.length cap (intCells tr) (by rw [intCells_len, Nat.mul_one])
    (fun j u hj => by
      have hjl : j < tr.length := by have := (List.getElem?_eq_some_iff.1 hj).1; rwa [intCells_len] at this
      obtain ⟨b', o', e', _, _, c⟩ := hI j hjl
      cases e'
      rw [Go.WideShapes.add_plain, c, ← hj]
      unfold intCells gI
      rw [List.getElem?_map, List.getD_eq_getElem?_getD, List.getElem?_eq_getElem hjl]
      rfl) (fun u hu => by obtain ⟨n, _, rfl⟩ := List.mem_map.1 hu; rfl) (by unfold maxLen; omega) (by omega) hX
  rw [Nat.zero_add, List.nil_append] at h2
  exact ⟨vt, X2, h1, h2, h3, h5⟩
noncomputable def laterC : Code := ((Tryz.f14.body.bind (loopAtC 3)).getD .skip)
set_option maxRecDepth 20000 in
set_option maxHeartbeats 8000000 in
theorem later_loop {s0 s2 s3 s4 s6 s7 s8 s9 s10 s11 s12 s13 s14 s15 s16 s20 s21 s22 s23 s24 s25 s26 s27 s28 s29 s30 s31 s32 s33 s34 s35 s36 s37 s38 s39 s40 s41 s42 s43 s44 s45 s46 : Value} (bl B1 : Nat) (by_ : Int) (tr : List Int) (gap : Int) (vt : Value) (a' : Option Addr) (T : List TrL) (cap' : Nat) (w W : World) (K : Act → World → Prop) (Q : Exit → Act → World → Prop)
    (hK : ∀ (u7 u8 u19 u20 u21 u22 u23 u24 u25 u26 u27 u28 u29 u30 u31 u32 u33 u34 u35 u36 u37 u38 u39 u40 u41 u42 u43 u44 u45 : Value) (wr : World) (L : List TrV) (vT : Value), L.map Prod.fst = T.map (laterL by_) → WlI w bl B1 tr gap L vt vT wr → K ⟨(s0 :: .int .i64 by_ :: s2 :: s3 :: s4 :: .pointer (some ⟨bl, 0, none⟩) :: s6 :: u7 :: u8 :: s9 :: s10 :: s11 :: s12 :: s13 :: s14 :: s15 :: s16 :: (.slice a' T.length cap') :: .int .i64 T.length :: u19 :: u20 :: u21 :: u22 :: u23 :: u24 :: u25 :: u26 :: u27 :: u28 :: u29 :: u30 :: u31 :: u32 :: u33 :: u34 :: u35 :: u36 :: u37 :: u38 :: u39 :: u40 :: u41 :: u42 :: u43 :: u44 :: u45 :: s46 :: []).toArray, []⟩ wr)
    (hT5 : T.length ≤ 5) (hby0 : 0 ≤ by_) (hby1 : by_ ≤ 1000) (hok : ∀ t ∈ T, 0 < t.legs.length ∧ t.legs.length ≤ 10 ∧ 0 ≤ t.ready ∧ t.ready ≤ 100000 ∧ 0 ≤ t.due ∧ t.due ≤ 100000)
    (hT : IsTrains 0 w.heap.size w a' T.length (fT T)) (hI0 : WlI w bl B1 tr gap [] vt (.slice none 0 0) W) :
    Code.wp Tryz.prog (Code.loop laterC) (Exit.inBlock 0 (Exit.then K Q)) ⟨(s0 :: .int .i64 by_ :: s2 :: s3 :: s4 :: .pointer (some ⟨bl, 0, none⟩) :: s6 :: s7 :: s8 :: s9 :: s10 :: s11 :: s12 :: s13 :: s14 :: s15 :: s16 :: (.slice a' T.length cap') :: .int .i64 T.length :: .int .i64 0 :: s20 :: s21 :: s22 :: s23 :: s24 :: s25 :: s26 :: s27 :: s28 :: s29 :: s30 :: s31 :: s32 :: s33 :: s34 :: s35 :: s36 :: s37 :: s38 :: s39 :: s40 :: s41 :: s42 :: s43 :: s44 :: s45 :: s46 :: []).toArray, []⟩ W := by
  conv => arg 2; arg 1; whnf
  have hK' : Hid _ := hK
  have hok' : Hid _ := hok
  clear hK hok
  obtain ⟨i0, ii, iz0, iz1, iz2⟩ := info3 Tryz.infoTrain
  obtain ⟨k0, ki, kz0, kz1, kz2⟩ := info3 Tryz.infoLeg
  go_loopw [19] (fun c19 wr => ∃ (i : Nat) (L : List TrV) (vT : Value), i ≤ T.length ∧ c19 = .int .i64 i ∧ L.map Prod.fst = (T.take i).map (laterL by_) ∧ WlI w bl B1 tr gap L vt vT wr) (fun c19 _ => T.length - (intOf c19).toNat)
  case atStart => exact ⟨0, [], _, Nat.zero_le _, rfl, by simp, hI0⟩
  case round =>
    clear hI0
    obtain ⟨i, L, vT, hi, rfl, hL, hI⟩ := hrel
    have hLl : L.length = i := by
      have := congrArg List.length hL
      rw [List.length_map, List.length_map, List.length_take] at this
      omega
    have hL' : Hid _ := hL
    have hLl' : Hid _ := hLl
    clear hL hLl
    by_cases hlt : i < T.length
    · have hlt' : (i : Int) < (T.length : Int) := by omega
      have hi0 : (0 : Int) ≤ (i : Int) := by omega
      obtain ⟨t, ht⟩ : ∃ t, T[i]? = some t := ⟨T[i], List.getElem?_eq_getElem hlt⟩
      have hft : fT T i = trD t := by unfold fT; rw [List.getD_eq_getElem?_getD, ht]; rfl
      have htm : t ∈ T := List.mem_of_getElem? ht
      obtain ⟨l0, l1, r0, r1, d0, d1⟩ := hok'.out t htm
      obtain ⟨bt, ot, la, lc, rfl, _, hbt, t0, t1, t2, t3, t4, hlg, hml⟩ := hT i hlt
      rw [hft] at t0 t1 t2 t3 t4 hlg hml
      dsimp only [trD] at t0 t1 t2 t3 t4 hlg hml
      have hft' : Hid _ := hft
      have ht' : Hid _ := ht
      have hB := hI.below
      replace t0 := cellLater hB t0
      replace t1 := cellLater hB t1
      replace t2 := cellLater hB t2
      replace t3 := cellLater hB t3
      replace t4 := cellLater hB t4
      obtain ⟨bl2, ol2, rfl, _, hbl2, _⟩ := hlg 0 l0
      have hlg' : Hid _ := hlg
      have hI' : Hid _ := hI
      clear hft ht hlg hI
      have hs2 : ((wr.alloc (.cells #[.int .i64 t.frm, .int .i64 t.ready, .int .i64 t.due, .int .i64 t.weight, .slice (some ⟨bl2, ol2, none⟩) t.legs.length lc] 72)).alloc (.cells #[.int .i64 t.frm, .int .i64 (t.ready + by_), .int .i64 (t.due + by_), .int .i64 t.weight, .slice (some ⟨bl2, ol2, none⟩) t.legs.length lc] 72)).heap.size = wr.heap.size + 2 := by rw [World.size_alloc, World.size_alloc]
      have hA7 := b1 wr (.cells #[.int .i64 t.frm, .int .i64 t.ready, .int .i64 t.due, .int .i64 t.weight, .slice (some ⟨bl2, ol2, none⟩) t.legs.length lc] 72)
      have hA8 := b1 (wr.alloc (.cells #[.int .i64 t.frm, .int .i64 t.ready, .int .i64 t.due, .int .i64 t.weight, .slice (some ⟨bl2, ol2, none⟩) t.legs.length lc] 72)) (.cells #[.int .i64 t.frm, .int .i64 (t.ready + by_), .int .i64 (t.due + by_), .int .i64 t.weight, .slice (some ⟨bl2, ol2, none⟩) t.legs.length lc] 72)
      have hE := Go.heap_alloc_new ((wr.alloc (.cells #[.int .i64 t.frm, .int .i64 t.ready, .int .i64 t.due, .int .i64 t.weight, .slice (some ⟨bl2, ol2, none⟩) t.legs.length lc] 72)).alloc (.cells #[.int .i64 t.frm, .int .i64 (t.ready + by_), .int .i64 (t.due + by_), .int .i64 t.weight, .slice (some ⟨bl2, ol2, none⟩) t.legs.length lc] 72)) (.cells #[] 74)
      rw [hs2] at hE
      have hA9 := b1 ((wr.alloc (.cells #[.int .i64 t.frm, .int .i64 t.ready, .int .i64 t.due, .int .i64 t.weight, .slice (some ⟨bl2, ol2, none⟩) t.legs.length lc] 72)).alloc (.cells #[.int .i64 t.frm, .int .i64 (t.ready + by_), .int .i64 (t.due + by_), .int .i64 t.weight, .slice (some ⟨bl2, ol2, none⟩) t.legs.length lc] 72)) (.cells #[] 74)
      have h79 := Below.join hA7 (Nat.le_refl _) hA8
      have h99 := Below.join h79 (Nat.le_refl _) hA9
      obtain ⟨e0, e1, e2, e3, e4⟩ := new5w (wr.alloc (.cells #[.int .i64 t.frm, .int .i64 t.ready, .int .i64 t.due, .int .i64 t.weight, .slice (some ⟨bl2, ol2, none⟩) t.legs.length lc] 72)) (.int .i64 t.frm) (.int .i64 (t.ready + by_)) (.int .i64 (t.due + by_)) (.int .i64 t.weight) (.slice (some ⟨bl2, ol2, none⟩) t.legs.length lc) 72
      rw [World.size_alloc] at e0 e1 e2 e3 e4
      replace e0 := cellLater hA9 e0
      replace e1 := cellLater hA9 e1
      replace e2 := cellLater hA9 e2
      replace e3 := cellLater hA9 e3
      replace e4 := cellLater hA9 e4
      have ez : (((wr.alloc (.cells #[.int .i64 t.frm, .int .i64 t.ready, .int .i64 t.due, .int .i64 t.weight, .slice (some ⟨bl2, ol2, none⟩) t.legs.length lc] 72)).alloc (.cells #[.int .i64 t.frm, .int .i64 (t.ready + by_), .int .i64 (t.due + by_), .int .i64 t.weight, .slice (some ⟨bl2, ol2, none⟩) t.legs.length lc] 72)).alloc (.cells #[] 74)).frozen? ⟨wr.heap.size + 1, 4, none⟩ = false := (hA9.frozen (by rw [hs2]; show wr.heap.size + 1 < _; omega)).trans (by have h := frozen_new (wr.alloc (.cells #[.int .i64 t.frm, .int .i64 t.ready, .int .i64 t.due, .int .i64 t.weight, .slice (some ⟨bl2, ol2, none⟩) t.legs.length lc] 72)) 4 #[.int .i64 t.frm, .int .i64 (t.ready + by_), .int .i64 (t.due + by_), .int .i64 t.weight, .slice (some ⟨bl2, ol2, none⟩) t.legs.length lc] 72; rwa [World.size_alloc] at h)
      have hs3 : (((wr.alloc (.cells #[.int .i64 t.frm, .int .i64 t.ready, .int .i64 t.due, .int .i64 t.weight, .slice (some ⟨bl2, ol2, none⟩) t.legs.length lc] 72)).alloc (.cells #[.int .i64 t.frm, .int .i64 (t.ready + by_), .int .i64 (t.due + by_), .int .i64 t.weight, .slice (some ⟨bl2, ol2, none⟩) t.legs.length lc] 72)).alloc (.cells #[] 74)).heap.size = wr.heap.size + 3 := by rw [World.size_alloc, hs2]
      have hlX : IsLegs 0 w.heap.size (((wr.alloc (.cells #[.int .i64 t.frm, .int .i64 t.ready, .int .i64 t.due, .int .i64 t.weight, .slice (some ⟨bl2, ol2, none⟩) t.legs.length lc] 72)).alloc (.cells #[.int .i64 t.frm, .int .i64 (t.ready + by_), .int .i64 (t.due + by_), .int .i64 t.weight, .slice (some ⟨bl2, ol2, none⟩) t.legs.length lc] 72)).alloc (.cells #[] 74)) (some ⟨bl2, ol2, none⟩) t.legs.length (fun m => t.legs.getD m ⟨0, 0, 0⟩) := IsLegs.below (W := w) (n₀ := w.heap.size) hlg'.out (Below.join hB (Nat.le_refl _) h99) (Nat.le_refl _)
      go_wp2_with (at_builtin; refine wpList_append_own_at _ rfl _ _ 70 rfl (wr.heap.size + 2) 74 k0 _ 3 24 Tryz.underlying70 ki kz0 kz1 kz2 rfl (by decide) (.slice (some ⟨wr.heap.size + 2, 0, none⟩) 0 0) 0 [] rfl ?own ⟨bl2, ol2, none⟩ t.legs.length lc (legCells t.legs) rfl ?len ?lie ?one ?b1 ?b2 ?b3 ?_)
      case own => exact ⟨rfl, Or.inr ⟨wr.heap.size + 2, 0, #[], rfl, Nat.le_refl _, hE, Nat.le_refl _, Nat.zero_le _, rfl, rfl⟩⟩
      case len => exact legCells_lenW _
      case lie => exact legs_lieW hlX
      case one => exact legCells_oneW _
      case b2 => omega
      intro lv W1 hown1 hgr1 _ hloc1
      obtain ⟨gl, cl, rfl⟩ := Joins.ownsRow_form hown1 l0
      have hgl := (hown1.lt gl rfl).1
      have hk1 : ∀ x, x < wr.heap.size + 2 → W1.heap[x]? = (((wr.alloc (.cells #[.int .i64 t.frm, .int .i64 t.ready, .int .i64 t.due, .int .i64 t.weight, .slice (some ⟨bl2, ol2, none⟩) t.legs.length lc] 72)).alloc (.cells #[.int .i64 t.frm, .int .i64 (t.ready + by_), .int .i64 (t.due + by_), .int .i64 t.weight, .slice (some ⟨bl2, ol2, none⟩) t.legs.length lc] 72)).alloc (.cells #[] 74)).heap[x]? := fun x hx => hgr1.block x (by omega) (fun e => by simp only [Value.ownBlock, Option.some.injEq] at e; omega)
      have cc : ∀ o v, (((wr.alloc (.cells #[.int .i64 t.frm, .int .i64 t.ready, .int .i64 t.due, .int .i64 t.weight, .slice (some ⟨bl2, ol2, none⟩) t.legs.length lc] 72)).alloc (.cells #[.int .i64 t.frm, .int .i64 (t.ready + by_), .int .i64 (t.due + by_), .int .i64 t.weight, .slice (some ⟨bl2, ol2, none⟩) t.legs.length lc] 72)).alloc (.cells #[] 74)).cell? ⟨wr.heap.size + 1, o, none⟩ = some v → W1.cell? ⟨wr.heap.size + 1, o, none⟩ = some v := fun o v h => (World.cell?_of_block (a := ⟨wr.heap.size + 1, o, none⟩) (hk1 (wr.heap.size + 1) (by omega))).trans h
      replace e0 := cc _ _ e0
      replace e1 := cc _ _ e1
      replace e2 := cc _ _ e2
      replace e3 := cc _ _ e3
      replace e4 := cc _ _ e4
      replace ez : W1.frozen? ⟨wr.heap.size + 1, 4, none⟩ = false := (World.frozen?_of_block (a := ⟨wr.heap.size + 1, 4, none⟩) (hk1 (wr.heap.size + 1) (by omega))).trans ez
      have hB1 : Below wr.heap.size wr W1 := below_grown h99 hgr1 (by omega) (fun x hx => by simp only [Value.ownBlock, Option.some.injEq] at hx; omega)
      have hs1 : wr.heap.size + 3 ≤ W1.heap.size := by have := hgr1.size; omega
      have hV : Below wr.heap.size wr (W1.setCell ⟨wr.heap.size + 1, 4, none⟩ (.slice (some ⟨gl, 0, none⟩) t.legs.length cl)) := hB1.setCell (p := ⟨wr.heap.size + 1, 4, none⟩) (by dsimp only; omega) _
      have hlv : OwnLegs B1 (W1.setCell ⟨wr.heap.size + 1, 4, none⟩ (.slice (some ⟨gl, 0, none⟩) t.legs.length cl)) (.slice (some ⟨gl, 0, none⟩) t.legs.length cl) t.legs := Joins.ownsRow_le (ownsRow_setCell_below hown1 (by dsimp only; omega) _) (by have := hI'.out.sz; omega)
      have f0 : (W1.setCell ⟨wr.heap.size + 1, 4, none⟩ (.slice (some ⟨gl, 0, none⟩) t.legs.length cl)).cell? ⟨wr.heap.size + 1, 0, none⟩ = some (.int .i64 t.frm) := (cell_set_ne (by omega)).trans e0
      have f1 : (W1.setCell ⟨wr.heap.size + 1, 4, none⟩ (.slice (some ⟨gl, 0, none⟩) t.legs.length cl)).cell? ⟨wr.heap.size + 1, 1, none⟩ = some (.int .i64 (t.ready + by_)) := (cell_set_ne (by omega)).trans e1
      have f2 : (W1.setCell ⟨wr.heap.size + 1, 4, none⟩ (.slice (some ⟨gl, 0, none⟩) t.legs.length cl)).cell? ⟨wr.heap.size + 1, 2, none⟩ = some (.int .i64 (t.due + by_)) := (cell_set_ne (by omega)).trans e2
      have f3 : (W1.setCell ⟨wr.heap.size + 1, 4, none⟩ (.slice (some ⟨gl, 0, none⟩) t.legs.length cl)).cell? ⟨wr.heap.size + 1, 3, none⟩ = some (.int .i64 t.weight) := (cell_set_ne (by omega)).trans e3
      have f4 : (W1.setCell ⟨wr.heap.size + 1, 4, none⟩ (.slice (some ⟨gl, 0, none⟩) t.legs.length cl)).cell? ⟨wr.heap.size + 1, 4, none⟩ = some (.slice (some ⟨gl, 0, none⟩) t.legs.length cl) := World.cell?_setCell_same _ _ _ e4
      have hszV : (W1.setCell ⟨wr.heap.size + 1, 4, none⟩ (.slice (some ⟨gl, 0, none⟩) t.legs.length cl)).heap.size = W1.heap.size := World.size_setCell ..
      have c2V := cellLater hV hI'.out.c2
      have hAY := b1 (W1.setCell ⟨wr.heap.size + 1, 4, none⟩ (.slice (some ⟨gl, 0, none⟩) t.legs.length cl)) (.cells #[.int .i64 t.frm, .int .i64 (t.ready + by_), .int .i64 (t.due + by_), .int .i64 t.weight, .slice (some ⟨gl, 0, none⟩) t.legs.length cl] 72)
      have hVY := Below.join hV (Nat.le_refl _) hAY
      have hTY := hI'.out.trs.later hVY
      have hlY : OwnLegs B1 _ (.slice (some ⟨gl, 0, none⟩) t.legs.length cl) t.legs := ownsRow_later hlv hAY
      have hszY : (World.alloc (W1.setCell ⟨wr.heap.size + 1, 4, none⟩ (.slice (some ⟨gl, 0, none⟩) t.legs.length cl)) (.cells #[.int .i64 t.frm, .int .i64 (t.ready + by_), .int .i64 (t.due + by_), .int .i64 t.weight, .slice (some ⟨gl, 0, none⟩) t.legs.length cl] 72)).heap.size = W1.heap.size + 1 := by rw [World.size_alloc, hszV]
      have hrowY := hTY.row
      rw [hLl'.out] at hrowY
      have hlX' : True := trivial
      clear hlX hlX' h99 h79 hA7 hA8 hA9 hE hs2 hs3 hgr1 hloc1 hk1 cc hown1 e0 e1 e2 e3 t0 t1 t2 t3 t4 hszV
      go_wp2_with (at_builtin; refine wpList_append_own_at _ rfl _ _ 24 rfl B1 72 i0 _ 5 56 Tryz.underlying24 ii iz0 iz1 iz2 rfl (by decide) vT i (trCells L) rfl hrowY ⟨_, 0, none⟩ 1 1 [.int .i64 t.frm, .int .i64 (t.ready + by_), .int .i64 (t.due + by_), .int .i64 t.weight, .slice (some ⟨gl, 0, none⟩) t.legs.length cl] rfl rfl ?lie2 ?one2 ?c1 ?c2 ?c3 ?_)
      case lie2 => exact lie5 (by simp only [World.size_setCell])
      case one2 => exact TrV_one (t := laterL by_ t)
      case c1 => unfold maxLen; omega
      case c2 => omega
      case c3 => have := hI'.out.sz; omega
      intro vT' W2 hown2 hgr2 _ hloc2
      have hst := hI'.out.step (t := laterL by_ t) (lv := .slice (some ⟨gl, 0, none⟩) t.legs.length cl) (v' := vT') hVY hlY (fun k hk => by simp only [Value.ownBlock, Option.some.injEq] at hk; omega) (by rw [hLl'.out]; exact hown2) hgr2 (by rw [hszY]; exact hloc2)
      obtain ⟨hst, m2, mz⟩ := hst
      obtain ⟨gn, cn, rfl⟩ := Joins.ownsRow_form hown2 (by omega)
      have hst' : Hid _ := hst
      clear hst hown2 hgr2 hloc2 hVY hTY hlY hszY hrowY hAY c2V f0 f1 f2 f3 f4 hV hlv
      go_wp2
      go_roundw
      case rel => exact ⟨i + 1, _, _, by omega, rfl, by
        rw [List.map_append, hL'.out, List.take_add_one, ht'.out, List.map_append]; rfl, hst'.out⟩
      case measure => simp only [intOf]; omega
    · obtain rfl : i = T.length := by omega
      go_wp2
      apply hK'.out
      · rw [hL'.out, List.take_length]
      · exact hI
end Go.Proofs.YtelickcfodcmaaaGreatDoor
