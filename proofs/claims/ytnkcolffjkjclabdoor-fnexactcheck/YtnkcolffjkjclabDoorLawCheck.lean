/-
  The law of Check: walked.
-/
import Derived.Test.YtnkcolffjkjclabDoorSpecE
import Derived.Test.YtnkcolffjkjclabDoorImplD
namespace Go.Proofs.YtnkcolffjkjclabDoor
open Go.RowKit

theorem set4_at {W : World} {b : Nat} {y0 y1 y2 y3 : Value} (h0 : W.cell? ⟨b, 0, none⟩ = some y0) (h1 : W.cell? ⟨b, 1, none⟩ = some y1) (h2 : W.cell? ⟨b, 2, none⟩ = some y2) (h3 : W.cell? ⟨b, 3, none⟩ = some y3) (x0 x1 x2 x3 : Value) :
    ((((W.setCell ⟨b, 0, none⟩ x0).setCell ⟨b, 1, none⟩ x1).setCell ⟨b, 2, none⟩ x2).setCell ⟨b, 3, none⟩ x3).cell? ⟨b, 0, none⟩ = some x0 ∧ ((((W.setCell ⟨b, 0, none⟩ x0).setCell ⟨b, 1, none⟩ x1).setCell ⟨b, 2, none⟩ x2).setCell ⟨b, 3, none⟩ x3).cell? ⟨b, 1, none⟩ = some x1 ∧
    ((((W.setCell ⟨b, 0, none⟩ x0).setCell ⟨b, 1, none⟩ x1).setCell ⟨b, 2, none⟩ x2).setCell ⟨b, 3, none⟩ x3).cell? ⟨b, 2, none⟩ = some x2 ∧ ((((W.setCell ⟨b, 0, none⟩ x0).setCell ⟨b, 1, none⟩ x1).setCell ⟨b, 2, none⟩ x2).setCell ⟨b, 3, none⟩ x3).cell? ⟨b, 3, none⟩ = some x3 := by
  simp [go_sem, h0, h1, h2, h3]
theorem boxL {X V : World} {t : TypeId} (hV : Below (X.alloc (.cells #[.int .i64 0, .int .i64 0, .int .i64 0, .int .i64 0] t)).heap.size (X.alloc (.cells #[.int .i64 0, .int .i64 0, .int .i64 0, .int .i64 0] t)) V) :
    (V.cell? ⟨X.heap.size, 0, none⟩ = some (.int .i64 0) ∧ V.cell? ⟨X.heap.size, 1, none⟩ = some (.int .i64 0) ∧ V.cell? ⟨X.heap.size, 2, none⟩ = some (.int .i64 0) ∧ V.cell? ⟨X.heap.size, 3, none⟩ = some (.int .i64 0)) ∧ (V.frozen? ⟨X.heap.size, 0, none⟩ = false ∧ V.frozen? ⟨X.heap.size, 1, none⟩ = false ∧ V.frozen? ⟨X.heap.size, 2, none⟩ = false ∧ V.frozen? ⟨X.heap.size, 3, none⟩ = false) := by
  obtain ⟨⟨r0, r1, r2, r3⟩, z0, z1, z2, z3⟩ := box4 X (.int .i64 0) (.int .i64 0) (.int .i64 0) (.int .i64 0) t
  exact ⟨⟨cellLater hV r0, cellLater hV r1, cellLater hV r2, cellLater hV r3⟩, frozenLater hV r0 z0, frozenLater hV r1 z1, frozenLater hV r2 z2, frozenLater hV r3 z3⟩

set_option maxRecDepth 20000 in
set_option maxHeartbeats 8000000 in
theorem lawCheck_any (a : Option Addr) (len cap : Nat) (g : Nat → Int) (gap : Int) (a' : Option Addr) (len' cap' : Nat) (f : Nat → TrainD) (c : Option Addr) (np nc : Nat) (P : Nat → RowD) (w : World) (hm : len ≤ maxLen) (hm' : len' ≤ maxLen) (hmp0 : np ≤ maxLen)
    (hI : IsInts 0 w.heap.size w a len g) (hT : IsTrains 0 w.heap.size w a' len' f) (hP : IsRows 0 w.heap.size w c np P) (hg : w.cell? ⟨0, 0, none⟩ = some (.iface 120 (.agg #[.pointer (some ⟨1, 101, none⟩)]))) :
    Calls Tryd.prog 3 #[.agg #[.slice a len cap, .int .i64 gap, .slice a' len' cap'], .agg #[.slice c np nc]] w fun e w' => e = .returned (.bool true) ∧ Below w.heap.size w w' := by
  obtain ⟨n0, n1, n2, m0⟩ := box2 w a len cap gap a' len' cap' c np nc 25 28
  go_enter Tryd.func3, Tryd.ntmps3
  go_wp2_with (first | (go_at_call 6; refine (szLine_any _ _ _ _ _ _ _ f _ hm hm' (hT.grow (b2 _ _ _))).mono ?_; rintro e w1 ⟨⟨r, rfl, hr1, hr'⟩, hB⟩; have hr : Hid _ := hr'; clear hr'; have hBc := Below.join (b2 w _ _) (Nat.le_refl _) hB; have q0 := cellLater hB n0; have q1 := cellLater hB n1; have q2 := cellLater hB n2; have q3 := cellLater hB m0; clear n0 n1 n2 m0; have hS := ltCell q0))
  · go_ret
    exact ⟨rfl, hBc⟩
  obtain ⟨hl, hl', hml⟩ := hr.out (by omega)
  clear hr hB
  go_wp2_with (first | (go_at_call 7; refine (szPlan_any _ _ _ P _ _ hmp0 (by omega) hr1 (hP.grow hBc)).mono ?_; rintro e w2 ⟨⟨r2, rfl, hr2, hr'⟩, hB⟩; have hr : Hid _ := hr'; clear hr'; replace hBc := Below.join hBc (Nat.le_refl _) hB; replace q0 := cellLater hB q0; replace q1 := cellLater hB q1; replace q2 := cellLater hB q2; replace q3 := cellLater hB q3; replace hS := ltCell q0))
  · go_ret
    exact ⟨rfl, hBc⟩
  obtain ⟨hp, hmp⟩ := hr.out (by omega)
  clear hr hB
  have hSV : ∀ V : World, Below w2.heap.size w2 V → V.cell? ⟨w.heap.size, 0, none⟩ = some (.slice a len cap) ∧ V.cell? ⟨w.heap.size, 1, none⟩ = some (.int .i64 gap) ∧ V.cell? ⟨w.heap.size, 2, none⟩ = some (.slice a' len' cap') ∧ V.cell? ⟨w.heap.size + 1, 0, none⟩ = some (.slice c np nc) := fun V hV => ⟨cellLater hV q0, cellLater hV q1, cellLater hV q2, cellLater hV q3⟩
  have hIV : ∀ V : World, Below w2.heap.size w2 V → IsInts 0 V.heap.size V a len g := fun V hV => hI.grow (Below.join hBc (Nat.le_refl _) hV)
  have hTV : ∀ V : World, Below w2.heap.size w2 V → IsTrains 0 V.heap.size V a' len' f := fun V hV => hT.grow (Below.join hBc (Nat.le_refl _) hV)
  have hPV : ∀ V : World, Below w2.heap.size w2 V → IsRows 0 V.heap.size V c np P := fun V hV => hP.grow (Below.join hBc (Nat.le_refl _) hV)
  obtain ⟨⟨v0, v1, v2, v3⟩, hE⟩ : ∃ vv, clashOf len g gap len' f np P = vv := ⟨_, rfl⟩
  have hSp := fun V b b' d hJ hU hD => specCheck_any b len len g gap b' len' len' f d np np P V hl hl' hml hp hmp hJ hU hD
  rw [hE] at hSp
  dsimp only at hSp
  have hb0 : Below w2.heap.size w2 w2.drew := (Below.refl _ _).drew
  have hb0a : Below w2.heap.size w2 (w2.alloc (.cells #[.int .i64 0, .int .i64 0, .int .i64 0, .int .i64 0] 32)).drew := (b1 _ _).drew
  have lw : w.heap.size + 1 < w2.heap.size := ltCell q3
  have lw0 : w.heap.size < w2.heap.size := ltCell q0
  go_wp2
  go_region_held3 (fun w' => w'.cell? ⟨w.heap.size, 0, none⟩ = some (.slice a len cap) ∧ w'.cell? ⟨w.heap.size, 1, none⟩ = some (.int .i64 gap) ∧ w'.cell? ⟨w.heap.size, 2, none⟩ = some (.slice a' len' cap') ∧ w'.cell? ⟨w.heap.size + 1, 0, none⟩ = some (.slice c np nc)) (first | exact hSV _ hb0 | exact hSV _ hb0a | exact hSV _ hb3 | exact hSV _ hb3a | exact hSV _ hb4 | exact hSV _ hb4a | exact hSV _ hb5 | exact hSV _ hb5a | exact hSV _ hb5v | exact hSs | go_keep) ((first | (go_at_call 9; refine (toLine_any _ _ _ g _ _ _ _ f _ hl hl' hml (hIV _ (by first | exact hb0 | exact hb0a)) (hTV _ (by first | exact hb0 | exact hb0a))).mono ?_; rintro e w3 ⟨⟨b, b', rfl, J, U⟩, hB3⟩; have hb3 : Below w2.heap.size w2 w3 := (by first | exact Below.join hb0 (Nat.le_refl _) hB3 | exact Below.join hb0a (Nat.le_refl _) hB3); have hb3a := Below.join hb3 (Nat.le_refl _) (b1 w3 (.cells #[.int .i64 0, .int .i64 0, .int .i64 0, .int .i64 0] 32))) | (go_at_call 10; refine (toPlan_any _ _ _ P _ hp hmp (hPV _ (by first | exact hb3 | exact hb3a))).mono ?_; rintro e w4 ⟨⟨d, rfl, D⟩, hB4⟩; have hw34 : Below w3.heap.size w3 w4 := (by first | exact hB4 | exact Below.join (b1 w3 (.cells #[.int .i64 0, .int .i64 0, .int .i64 0, .int .i64 0] 32)) (Nat.le_refl _) hB4); have hb4 := Below.join hb3 (Nat.le_refl _) hw34; have hb4a := Below.join hb4 (Nat.le_refl _) (b1 w4 (.cells #[.int .i64 0, .int .i64 0, .int .i64 0, .int .i64 0] 32)); replace J := (J.mono (m₁ := 0) (Nat.zero_le _) (Nat.le_refl _)).grow hw34; replace U := (U.mono (m₁ := 0) (Nat.zero_le _) (Nat.le_refl _)).grow hw34; replace D := D.mono (m₁ := 0) (Nat.zero_le _) (Nat.le_refl _)) | (go_at_call 8; (first | (refine (hSp _ _ _ _ J U D).mono ?_) | (refine (hSp _ _ _ _ (J.grow (b1 w4 (.cells #[.int .i64 0, .int .i64 0, .int .i64 0, .int .i64 0] 32))) (U.grow (b1 w4 (.cells #[.int .i64 0, .int .i64 0, .int .i64 0, .int .i64 0] 32))) (D.grow (b1 w4 (.cells #[.int .i64 0, .int .i64 0, .int .i64 0, .int .i64 0] 32)))).mono ?_)); rintro e w5 ⟨rfl, hB5⟩; have hw45 : Below w4.heap.size w4 w5 := (by first | exact hB5 | exact Below.join (b1 w4 (.cells #[.int .i64 0, .int .i64 0, .int .i64 0, .int .i64 0] 32)) (Nat.le_refl _) hB5); have hb5 := Below.join hb4 (Nat.le_refl _) hw45; have hb5a := Below.join hb5 (Nat.le_refl _) (b1 w5 (.cells #[.int .i64 0, .int .i64 0, .int .i64 0, .int .i64 0] 32)); have hb5v := Below.join hb5 (Nat.le_refl _) (b1 w5 (.cells #[.int .i64 v0, .int .i64 v1, .int .i64 v2, .int .i64 v3] 32)); have s3 : w2.heap.size ≤ w3.heap.size := hb3.size; have s4 : w2.heap.size ≤ w4.heap.size := hb4.size; (first | (change Below (World.alloc _ _).heap.size (World.alloc _ _) _ at hB5; obtain ⟨⟨r0, r1, r2, r3⟩, z0, z1, z2, z3⟩ := boxL hB5; have hSs := And.intro (set4_cell (hSV _ hb5).1 (b := w4.heap.size) (by omega) (.int .i64 v0) (.int .i64 v1) (.int .i64 v2) (.int .i64 v3)) (And.intro (set4_cell (hSV _ hb5).2.1 (b := w4.heap.size) (by omega) (.int .i64 v0) (.int .i64 v1) (.int .i64 v2) (.int .i64 v3)) (And.intro (set4_cell (hSV _ hb5).2.2.1 (b := w4.heap.size) (by omega) (.int .i64 v0) (.int .i64 v1) (.int .i64 v2) (.int .i64 v3)) (set4_cell (hSV _ hb5).2.2.2 (b := w4.heap.size) (by omega) (.int .i64 v0) (.int .i64 v1) (.int .i64 v2) (.int .i64 v3))))) | (change Below (World.alloc _ _).heap.size (World.alloc _ _) _ at hB4; obtain ⟨⟨r0, r1, r2, r3⟩, z0, z1, z2, z3⟩ := boxL (Below.join hB4 (Nat.le_refl _) hw45); have hSs := And.intro (set4_cell (hSV _ hb5).1 (b := w3.heap.size) (by omega) (.int .i64 v0) (.int .i64 v1) (.int .i64 v2) (.int .i64 v3)) (And.intro (set4_cell (hSV _ hb5).2.1 (b := w3.heap.size) (by omega) (.int .i64 v0) (.int .i64 v1) (.int .i64 v2) (.int .i64 v3)) (And.intro (set4_cell (hSV _ hb5).2.2.1 (b := w3.heap.size) (by omega) (.int .i64 v0) (.int .i64 v1) (.int .i64 v2) (.int .i64 v3)) (set4_cell (hSV _ hb5).2.2.2 (b := w3.heap.size) (by omega) (.int .i64 v0) (.int .i64 v1) (.int .i64 v2) (.int .i64 v3))))) | (change Below (World.drew (World.alloc _ _)).heap.size (World.drew (World.alloc _ _)) _ at hB3; obtain ⟨⟨r0, r1, r2, r3⟩, z0, z1, z2, z3⟩ := boxL (Below.join (Below.join (Below.join (Below.refl _ (w2.alloc (.cells #[.int .i64 0, .int .i64 0, .int .i64 0, .int .i64 0] 32))).drew (Nat.le_refl _) hB3) (Nat.le_refl _) hw34) (Nat.le_refl _) hw45); have hSs := And.intro (set4_cell (hSV _ hb5).1 (b := w2.heap.size) (by omega) (.int .i64 v0) (.int .i64 v1) (.int .i64 v2) (.int .i64 v3)) (And.intro (set4_cell (hSV _ hb5).2.1 (b := w2.heap.size) (by omega) (.int .i64 v0) (.int .i64 v1) (.int .i64 v2) (.int .i64 v3)) (And.intro (set4_cell (hSV _ hb5).2.2.1 (b := w2.heap.size) (by omega) (.int .i64 v0) (.int .i64 v1) (.int .i64 v2) (.int .i64 v3)) (set4_cell (hSV _ hb5).2.2.2 (b := w2.heap.size) (by omega) (.int .i64 v0) (.int .i64 v1) (.int .i64 v2) (.int .i64 v3))))) | skip))))
  all_goals
    have hIm := fun V b b' d hJ hU hD hCp hg => implCheck_any b len len g gap b' len' len' f d np np P V hl hl' hml hp hmp hJ hU hD hCp hg
    rw [hE] at hIm
    dsimp only [clashV] at hIm
  · obtain ⟨⟨k0, k1, k2, k3⟩, _⟩ := box4 w5 (.int .i64 v0) (.int .i64 v1) (.int .i64 v2) (.int .i64 v3) 32
    have hBX := hb5v
    generalize w5.alloc (.cells #[.int .i64 v0, .int .i64 v1, .int .i64 v2, .int .i64 v3] 32) = XX at hBX k0 k1 k2 k3 ⊢
    generalize w5.heap.size = qb at k0 k1 k2 k3 ⊢
    clear hb0 hb0a hb3 hb3a hb4 hb4a hb5 hb5a hb5v hw34 hw45 hB3 hB4 hB5 J U D hSp hSV hIV hTV hPV hE s3 s4 lw lw0 hS
    replace q0 := cellLater hBX q0
    replace q1 := cellLater hBX q1
    replace q2 := cellLater hBX q2
    replace q3 := cellLater hBX q3
    replace hBc := Below.join hBc (Nat.le_refl _) hBX
    clear hBX
    go_wp2_with (first | (go_at_call 9; refine (toLine_any _ _ _ g _ _ _ _ f _ hl hl' hml (hI.grow hBc) (hT.grow hBc)).mono ?_; rintro e w6 ⟨⟨b, b', rfl, J, U⟩, hB⟩; replace q0 := cellLater hB q0; replace q1 := cellLater hB q1; replace q2 := cellLater hB q2; replace q3 := cellLater hB q3; replace k0 := cellLater hB k0; replace k1 := cellLater hB k1; replace k2 := cellLater hB k2; replace k3 := cellLater hB k3; replace hBc := Below.join hBc (Nat.le_refl _) hB; have hS := ltCell q0; have hS3 := ltCell q3; clear hB))
    have hN := b1 w6 (.cells #[.slice b len len, .int .i64 gap, .slice b' len' len'] 36)
    replace J := (J.mono (m₁ := 0) (Nat.zero_le _) (Nat.le_refl _)).grow hN
    replace U := (U.mono (m₁ := 0) (Nat.zero_le _) (Nat.le_refl _)).grow hN
    obtain ⟨x0, x1, x2⟩ := new3 w6 (.slice b len len) (.int .i64 gap) (.slice b' len' len') 36
    replace q0 := cellLater hN q0
    replace q1 := cellLater hN q1
    replace q2 := cellLater hN q2
    replace q3 := cellLater hN q3
    replace k0 := cellLater hN k0
    replace k1 := cellLater hN k1
    replace k2 := cellLater hN k2
    replace k3 := cellLater hN k3
    replace hBc := Below.join hBc (Nat.le_refl _) hN
    clear hN hS hS3
    refine (toPlanC_any _ _ _ P _ hp hmp (hP.grow hBc)).mono ?_
    rintro e w7 ⟨⟨d, rfl, D, hCp⟩, hB⟩
    replace J := J.grow hB
    replace U := U.grow hB
    replace x0 := cellLater hB x0
    replace x1 := cellLater hB x1
    replace x2 := cellLater hB x2
    replace q0 := cellLater hB q0
    replace q1 := cellLater hB q1
    replace q2 := cellLater hB q2
    replace q3 := cellLater hB q3
    replace k0 := cellLater hB k0
    replace k1 := cellLater hB k1
    replace k2 := cellLater hB k2
    replace k3 := cellLater hB k3
    replace hBc := Below.join hBc (Nat.le_refl _) hB
    have l0 := ltCell q0
    have l3 := ltCell q3
    have lx := ltCell x0
    clear hB
    have hN := b1 w7 (.cells #[.slice d np np] 38)
    have u0 : (w7.alloc (.cells #[.slice d np np] 38)).cell? ⟨w7.heap.size, 0, none⟩ = some (.slice d np np) := by simp
    replace J := J.grow hN
    replace U := U.grow hN
    replace D := (D.mono (m₁ := 0) (Nat.zero_le _) (Nat.le_refl _)).grow hN
    replace hCp := hCp.later hN
    replace hBc := Below.join hBc (Nat.le_refl _) hN
    have hg0 := cellLater hBc hg
    go_wp2_with (first | (go_at_call 11; refine (hIm _ _ _ _ J U D hCp hg0).mono ?_; rintro e w8 ⟨rfl, hB⟩; have hMK := Below.join hN (Nat.le_refl _) hB; replace k0 := cellLater hMK k0; replace k1 := cellLater hMK k1; replace k2 := cellLater hMK k2; replace k3 := cellLater hMK k3; have lk := ltCell k0; dsimp only at lk) | (go_at_call 12; refine (eqClash_same v0 v1 v2 v3 _).mono ?_; rintro e w9 ⟨rfl, hB9⟩))
    have hMM := Below.join (Below.join hB (Nat.le_refl _) (b1 w8 (.cells #[.int .i64 v0, .int .i64 v1, .int .i64 v2, .int .i64 v3] 32))) (Nat.le_refl _) hB9
    have hM := Below.join hN (Nat.le_refl _) hMM
    replace J := J.grow hMM
    replace U := U.grow hMM
    replace D := D.grow hMM
    replace u0 := cellLater hMM u0
    replace x0 := cellLater hM x0
    replace x1 := cellLater hM x1
    replace x2 := cellLater hM x2
    replace q0 := cellLater hM q0
    replace q1 := cellLater hM q1
    replace q2 := cellLater hM q2
    replace q3 := cellLater hM q3
    replace hBc := Below.join hBc (Nat.le_refl _) hMM
    clear hB hB9 hMM hM hMK hN hg0 l0 l3 lx lk k0 k1 k2 k3 hCp
    have hDr : Below w9.heap.size w9 w9.drew := (Below.refl _ _).drew
    replace J := J.grow hDr
    replace U := U.grow hDr
    replace D := D.grow hDr
    replace hBc := Below.join hBc (Nat.le_refl _) hDr
    have I6 := hI.grow hBc
    have T6 := hT.grow hBc
    clear hDr
    go_region_held3 (fun w' => w'.cell? ⟨w.heap.size, 0, none⟩ = some (.slice a len cap) ∧ w'.cell? ⟨w.heap.size, 1, none⟩ = some (.int .i64 gap) ∧ w'.cell? ⟨w.heap.size, 2, none⟩ = some (.slice a' len' cap') ∧ w'.cell? ⟨w6.heap.size, 0, none⟩ = some (.slice b len len) ∧ w'.cell? ⟨w6.heap.size, 1, none⟩ = some (.int .i64 gap) ∧ w'.cell? ⟨w6.heap.size, 2, none⟩ = some (.slice b' len' len')) (first | go_keep | (go_split_ands; refine ⟨?_, ?_, ?_, ?_, ?_, ?_⟩ <;> exact cellLater hB7 (by assumption)) | (go_split_ands; refine ⟨?_, ?_, ?_, ?_, ?_, ?_⟩ <;> exact cellLater hB8 (by assumption))) ((first | (go_at_call 9; refine (toLine_any _ _ _ g _ _ _ _ f _ hl hl' hml I6 T6).mono ?_; rintro e wa ⟨⟨k, k', rfl, J7, U7⟩, hB7⟩; replace J := J.grow hB7; replace U := U.grow hB7) | (go_at_call 13; refine (eqLine_same _ _ _ g _ _ _ _ f _ _ _ _ _ hl hl' hml J U (J7.mono (Nat.zero_le _) (Nat.le_refl _)) (U7.mono (Nat.zero_le _) (Nat.le_refl _))).mono ?_; rintro e wb ⟨rfl, hB8⟩)))
    have hBe : Below w9.heap.size w9 wb := Below.join (Below.join (Below.refl _ _).drew (Nat.le_refl _) hB7) (Nat.le_refl _) hB8
    replace u0 := cellLater hBe u0
    replace q3 := cellLater hBe q3
    replace D := (D.grow hB7).grow hB8
    replace hBc := Below.join (Below.join hBc (Nat.le_refl _) hB7) (Nat.le_refl _) hB8
    clear hBe hB7 hB8 J U J7 U7 I6 T6 x0 x1 x2 q0 q1 q2
    go_wp2
    have hDr : Below wb.heap.size wb wb.drew := (Below.refl _ _).drew
    replace D := D.grow hDr
    replace hBc := Below.join hBc (Nat.le_refl _) hDr
    have P6 := hP.grow hBc
    clear hDr
    go_region_held3 (fun w' => w'.cell? ⟨w.heap.size + 1, 0, none⟩ = some (.slice c np nc) ∧ w'.cell? ⟨w7.heap.size, 0, none⟩ = some (.slice d np np)) (first | go_keep | (go_split_ands; refine ⟨?_, ?_⟩ <;> exact cellLater hB7 (by assumption)) | (go_split_ands; refine ⟨?_, ?_⟩ <;> exact cellLater hB8 (by assumption))) ((first | (go_at_call 10; refine (toPlan_any _ _ _ P _ hp hmp P6).mono ?_; rintro e wc ⟨⟨k, rfl, D7⟩, hB7⟩; replace D := D.grow hB7) | (go_at_call 14; refine (eqPlan_same _ _ _ _ _ P _ hp hmp D (D7.mono (Nat.zero_le _) (Nat.le_refl _))).mono ?_; rintro e wd ⟨rfl, hB8⟩)))
    go_wp2
    go_ret
    exact ⟨rfl, Below.join (Below.join hBc (Nat.le_refl _) hB7) (Nat.le_refl _) hB8⟩
  · have hBX : Below w2.heap.size w2 ((((w5.setCell ⟨w4.heap.size, 0, none⟩ (.int .i64 v0)).setCell ⟨w4.heap.size, 1, none⟩ (.int .i64 v1)).setCell ⟨w4.heap.size, 2, none⟩ (.int .i64 v2)).setCell ⟨w4.heap.size, 3, none⟩ (.int .i64 v3)) := below_set4 hb5 (by omega) _ _ _ _
    obtain ⟨k0, k1, k2, k3⟩ := set4_at r0 r1 r2 r3 (.int .i64 v0) (.int .i64 v1) (.int .i64 v2) (.int .i64 v3)
    generalize ((((w5.setCell ⟨w4.heap.size, 0, none⟩ (.int .i64 v0)).setCell ⟨w4.heap.size, 1, none⟩ (.int .i64 v1)).setCell ⟨w4.heap.size, 2, none⟩ (.int .i64 v2)).setCell ⟨w4.heap.size, 3, none⟩ (.int .i64 v3)) = XX at hBX k0 k1 k2 k3 ⊢
    generalize w4.heap.size = qb at k0 k1 k2 k3 ⊢
    clear hb0 hb0a hb3 hb3a hb4 hb4a hb5 hb5a hb5v hw34 hw45 hB3 hB4 hB5 J U D hSp hSV hIV hTV hPV hE s3 s4 lw lw0 hS r0 r1 r2 r3 z0 z1 z2 z3 hSs
    replace q0 := cellLater hBX q0
    replace q1 := cellLater hBX q1
    replace q2 := cellLater hBX q2
    replace q3 := cellLater hBX q3
    replace hBc := Below.join hBc (Nat.le_refl _) hBX
    clear hBX
    go_wp2_with (first | (go_at_call 9; refine (toLine_any _ _ _ g _ _ _ _ f _ hl hl' hml (hI.grow hBc) (hT.grow hBc)).mono ?_; rintro e w6 ⟨⟨b, b', rfl, J, U⟩, hB⟩; replace q0 := cellLater hB q0; replace q1 := cellLater hB q1; replace q2 := cellLater hB q2; replace q3 := cellLater hB q3; replace k0 := cellLater hB k0; replace k1 := cellLater hB k1; replace k2 := cellLater hB k2; replace k3 := cellLater hB k3; replace hBc := Below.join hBc (Nat.le_refl _) hB; have hS := ltCell q0; have hS3 := ltCell q3; clear hB))
    have hN := b1 w6 (.cells #[.slice b len len, .int .i64 gap, .slice b' len' len'] 36)
    replace J := (J.mono (m₁ := 0) (Nat.zero_le _) (Nat.le_refl _)).grow hN
    replace U := (U.mono (m₁ := 0) (Nat.zero_le _) (Nat.le_refl _)).grow hN
    obtain ⟨x0, x1, x2⟩ := new3 w6 (.slice b len len) (.int .i64 gap) (.slice b' len' len') 36
    replace q0 := cellLater hN q0
    replace q1 := cellLater hN q1
    replace q2 := cellLater hN q2
    replace q3 := cellLater hN q3
    replace k0 := cellLater hN k0
    replace k1 := cellLater hN k1
    replace k2 := cellLater hN k2
    replace k3 := cellLater hN k3
    replace hBc := Below.join hBc (Nat.le_refl _) hN
    clear hN hS hS3
    refine (toPlanC_any _ _ _ P _ hp hmp (hP.grow hBc)).mono ?_
    rintro e w7 ⟨⟨d, rfl, D, hCp⟩, hB⟩
    replace J := J.grow hB
    replace U := U.grow hB
    replace x0 := cellLater hB x0
    replace x1 := cellLater hB x1
    replace x2 := cellLater hB x2
    replace q0 := cellLater hB q0
    replace q1 := cellLater hB q1
    replace q2 := cellLater hB q2
    replace q3 := cellLater hB q3
    replace k0 := cellLater hB k0
    replace k1 := cellLater hB k1
    replace k2 := cellLater hB k2
    replace k3 := cellLater hB k3
    replace hBc := Below.join hBc (Nat.le_refl _) hB
    have l0 := ltCell q0
    have l3 := ltCell q3
    have lx := ltCell x0
    clear hB
    have hN := b1 w7 (.cells #[.slice d np np] 38)
    have u0 : (w7.alloc (.cells #[.slice d np np] 38)).cell? ⟨w7.heap.size, 0, none⟩ = some (.slice d np np) := by simp
    replace J := J.grow hN
    replace U := U.grow hN
    replace D := (D.mono (m₁ := 0) (Nat.zero_le _) (Nat.le_refl _)).grow hN
    replace hCp := hCp.later hN
    replace hBc := Below.join hBc (Nat.le_refl _) hN
    have hg0 := cellLater hBc hg
    go_wp2_with (first | (go_at_call 11; refine (hIm _ _ _ _ J U D hCp hg0).mono ?_; rintro e w8 ⟨rfl, hB⟩; have hMK := Below.join hN (Nat.le_refl _) hB; replace k0 := cellLater hMK k0; replace k1 := cellLater hMK k1; replace k2 := cellLater hMK k2; replace k3 := cellLater hMK k3; have lk := ltCell k0; dsimp only at lk) | (go_at_call 12; refine (eqClash_same v0 v1 v2 v3 _).mono ?_; rintro e w9 ⟨rfl, hB9⟩))
    have hMM := Below.join (Below.join hB (Nat.le_refl _) (b1 w8 (.cells #[.int .i64 v0, .int .i64 v1, .int .i64 v2, .int .i64 v3] 32))) (Nat.le_refl _) hB9
    have hM := Below.join hN (Nat.le_refl _) hMM
    replace J := J.grow hMM
    replace U := U.grow hMM
    replace D := D.grow hMM
    replace u0 := cellLater hMM u0
    replace x0 := cellLater hM x0
    replace x1 := cellLater hM x1
    replace x2 := cellLater hM x2
    replace q0 := cellLater hM q0
    replace q1 := cellLater hM q1
    replace q2 := cellLater hM q2
    replace q3 := cellLater hM q3
    replace hBc := Below.join hBc (Nat.le_refl _) hMM
    clear hB hB9 hMM hM hMK hN hg0 l0 l3 lx lk k0 k1 k2 k3 hCp
    have hDr : Below w9.heap.size w9 w9.drew := (Below.refl _ _).drew
    replace J := J.grow hDr
    replace U := U.grow hDr
    replace D := D.grow hDr
    replace hBc := Below.join hBc (Nat.le_refl _) hDr
    have I6 := hI.grow hBc
    have T6 := hT.grow hBc
    clear hDr
    go_region_held3 (fun w' => w'.cell? ⟨w.heap.size, 0, none⟩ = some (.slice a len cap) ∧ w'.cell? ⟨w.heap.size, 1, none⟩ = some (.int .i64 gap) ∧ w'.cell? ⟨w.heap.size, 2, none⟩ = some (.slice a' len' cap') ∧ w'.cell? ⟨w6.heap.size, 0, none⟩ = some (.slice b len len) ∧ w'.cell? ⟨w6.heap.size, 1, none⟩ = some (.int .i64 gap) ∧ w'.cell? ⟨w6.heap.size, 2, none⟩ = some (.slice b' len' len')) (first | go_keep | (go_split_ands; refine ⟨?_, ?_, ?_, ?_, ?_, ?_⟩ <;> exact cellLater hB7 (by assumption)) | (go_split_ands; refine ⟨?_, ?_, ?_, ?_, ?_, ?_⟩ <;> exact cellLater hB8 (by assumption))) ((first | (go_at_call 9; refine (toLine_any _ _ _ g _ _ _ _ f _ hl hl' hml I6 T6).mono ?_; rintro e wa ⟨⟨k, k', rfl, J7, U7⟩, hB7⟩; replace J := J.grow hB7; replace U := U.grow hB7) | (go_at_call 13; refine (eqLine_same _ _ _ g _ _ _ _ f _ _ _ _ _ hl hl' hml J U (J7.mono (Nat.zero_le _) (Nat.le_refl _)) (U7.mono (Nat.zero_le _) (Nat.le_refl _))).mono ?_; rintro e wb ⟨rfl, hB8⟩)))
    have hBe : Below w9.heap.size w9 wb := Below.join (Below.join (Below.refl _ _).drew (Nat.le_refl _) hB7) (Nat.le_refl _) hB8
    replace u0 := cellLater hBe u0
    replace q3 := cellLater hBe q3
    replace D := (D.grow hB7).grow hB8
    replace hBc := Below.join (Below.join hBc (Nat.le_refl _) hB7) (Nat.le_refl _) hB8
    clear hBe hB7 hB8 J U J7 U7 I6 T6 x0 x1 x2 q0 q1 q2
    go_wp2
    have hDr : Below wb.heap.size wb wb.drew := (Below.refl _ _).drew
    replace D := D.grow hDr
    replace hBc := Below.join hBc (Nat.le_refl _) hDr
    have P6 := hP.grow hBc
    clear hDr
    go_region_held3 (fun w' => w'.cell? ⟨w.heap.size + 1, 0, none⟩ = some (.slice c np nc) ∧ w'.cell? ⟨w7.heap.size, 0, none⟩ = some (.slice d np np)) (first | go_keep | (go_split_ands; refine ⟨?_, ?_⟩ <;> exact cellLater hB7 (by assumption)) | (go_split_ands; refine ⟨?_, ?_⟩ <;> exact cellLater hB8 (by assumption))) ((first | (go_at_call 10; refine (toPlan_any _ _ _ P _ hp hmp P6).mono ?_; rintro e wc ⟨⟨k, rfl, D7⟩, hB7⟩; replace D := D.grow hB7) | (go_at_call 14; refine (eqPlan_same _ _ _ _ _ P _ hp hmp D (D7.mono (Nat.zero_le _) (Nat.le_refl _))).mono ?_; rintro e wd ⟨rfl, hB8⟩)))
    go_wp2
    go_ret
    exact ⟨rfl, Below.join (Below.join hBc (Nat.le_refl _) hB7) (Nat.le_refl _) hB8⟩
  · have hBX : Below w2.heap.size w2 ((((w5.setCell ⟨w3.heap.size, 0, none⟩ (.int .i64 v0)).setCell ⟨w3.heap.size, 1, none⟩ (.int .i64 v1)).setCell ⟨w3.heap.size, 2, none⟩ (.int .i64 v2)).setCell ⟨w3.heap.size, 3, none⟩ (.int .i64 v3)) := below_set4 hb5 (by omega) _ _ _ _
    obtain ⟨k0, k1, k2, k3⟩ := set4_at r0 r1 r2 r3 (.int .i64 v0) (.int .i64 v1) (.int .i64 v2) (.int .i64 v3)
    generalize ((((w5.setCell ⟨w3.heap.size, 0, none⟩ (.int .i64 v0)).setCell ⟨w3.heap.size, 1, none⟩ (.int .i64 v1)).setCell ⟨w3.heap.size, 2, none⟩ (.int .i64 v2)).setCell ⟨w3.heap.size, 3, none⟩ (.int .i64 v3)) = XX at hBX k0 k1 k2 k3 ⊢
    generalize w3.heap.size = qb at k0 k1 k2 k3 ⊢
    clear hb0 hb0a hb3 hb3a hb4 hb4a hb5 hb5a hb5v hw34 hw45 hB3 hB4 hB5 J U D hSp hSV hIV hTV hPV hE s3 s4 lw lw0 hS r0 r1 r2 r3 z0 z1 z2 z3 hSs
    replace q0 := cellLater hBX q0
    replace q1 := cellLater hBX q1
    replace q2 := cellLater hBX q2
    replace q3 := cellLater hBX q3
    replace hBc := Below.join hBc (Nat.le_refl _) hBX
    clear hBX
    go_wp2_with (first | (go_at_call 9; refine (toLine_any _ _ _ g _ _ _ _ f _ hl hl' hml (hI.grow hBc) (hT.grow hBc)).mono ?_; rintro e w6 ⟨⟨b, b', rfl, J, U⟩, hB⟩; replace q0 := cellLater hB q0; replace q1 := cellLater hB q1; replace q2 := cellLater hB q2; replace q3 := cellLater hB q3; replace k0 := cellLater hB k0; replace k1 := cellLater hB k1; replace k2 := cellLater hB k2; replace k3 := cellLater hB k3; replace hBc := Below.join hBc (Nat.le_refl _) hB; have hS := ltCell q0; have hS3 := ltCell q3; clear hB))
    have hN := b1 w6 (.cells #[.slice b len len, .int .i64 gap, .slice b' len' len'] 36)
    replace J := (J.mono (m₁ := 0) (Nat.zero_le _) (Nat.le_refl _)).grow hN
    replace U := (U.mono (m₁ := 0) (Nat.zero_le _) (Nat.le_refl _)).grow hN
    obtain ⟨x0, x1, x2⟩ := new3 w6 (.slice b len len) (.int .i64 gap) (.slice b' len' len') 36
    replace q0 := cellLater hN q0
    replace q1 := cellLater hN q1
    replace q2 := cellLater hN q2
    replace q3 := cellLater hN q3
    replace k0 := cellLater hN k0
    replace k1 := cellLater hN k1
    replace k2 := cellLater hN k2
    replace k3 := cellLater hN k3
    replace hBc := Below.join hBc (Nat.le_refl _) hN
    clear hN hS hS3
    refine (toPlanC_any _ _ _ P _ hp hmp (hP.grow hBc)).mono ?_
    rintro e w7 ⟨⟨d, rfl, D, hCp⟩, hB⟩
    replace J := J.grow hB
    replace U := U.grow hB
    replace x0 := cellLater hB x0
    replace x1 := cellLater hB x1
    replace x2 := cellLater hB x2
    replace q0 := cellLater hB q0
    replace q1 := cellLater hB q1
    replace q2 := cellLater hB q2
    replace q3 := cellLater hB q3
    replace k0 := cellLater hB k0
    replace k1 := cellLater hB k1
    replace k2 := cellLater hB k2
    replace k3 := cellLater hB k3
    replace hBc := Below.join hBc (Nat.le_refl _) hB
    have l0 := ltCell q0
    have l3 := ltCell q3
    have lx := ltCell x0
    clear hB
    have hN := b1 w7 (.cells #[.slice d np np] 38)
    have u0 : (w7.alloc (.cells #[.slice d np np] 38)).cell? ⟨w7.heap.size, 0, none⟩ = some (.slice d np np) := by simp
    replace J := J.grow hN
    replace U := U.grow hN
    replace D := (D.mono (m₁ := 0) (Nat.zero_le _) (Nat.le_refl _)).grow hN
    replace hCp := hCp.later hN
    replace hBc := Below.join hBc (Nat.le_refl _) hN
    have hg0 := cellLater hBc hg
    go_wp2_with (first | (go_at_call 11; refine (hIm _ _ _ _ J U D hCp hg0).mono ?_; rintro e w8 ⟨rfl, hB⟩; have hMK := Below.join hN (Nat.le_refl _) hB; replace k0 := cellLater hMK k0; replace k1 := cellLater hMK k1; replace k2 := cellLater hMK k2; replace k3 := cellLater hMK k3; have lk := ltCell k0; dsimp only at lk) | (go_at_call 12; refine (eqClash_same v0 v1 v2 v3 _).mono ?_; rintro e w9 ⟨rfl, hB9⟩))
    have hMM := Below.join (Below.join hB (Nat.le_refl _) (b1 w8 (.cells #[.int .i64 v0, .int .i64 v1, .int .i64 v2, .int .i64 v3] 32))) (Nat.le_refl _) hB9
    have hM := Below.join hN (Nat.le_refl _) hMM
    replace J := J.grow hMM
    replace U := U.grow hMM
    replace D := D.grow hMM
    replace u0 := cellLater hMM u0
    replace x0 := cellLater hM x0
    replace x1 := cellLater hM x1
    replace x2 := cellLater hM x2
    replace q0 := cellLater hM q0
    replace q1 := cellLater hM q1
    replace q2 := cellLater hM q2
    replace q3 := cellLater hM q3
    replace hBc := Below.join hBc (Nat.le_refl _) hMM
    clear hB hB9 hMM hM hMK hN hg0 l0 l3 lx lk k0 k1 k2 k3 hCp
    have hDr : Below w9.heap.size w9 w9.drew := (Below.refl _ _).drew
    replace J := J.grow hDr
    replace U := U.grow hDr
    replace D := D.grow hDr
    replace hBc := Below.join hBc (Nat.le_refl _) hDr
    have I6 := hI.grow hBc
    have T6 := hT.grow hBc
    clear hDr
    go_region_held3 (fun w' => w'.cell? ⟨w.heap.size, 0, none⟩ = some (.slice a len cap) ∧ w'.cell? ⟨w.heap.size, 1, none⟩ = some (.int .i64 gap) ∧ w'.cell? ⟨w.heap.size, 2, none⟩ = some (.slice a' len' cap') ∧ w'.cell? ⟨w6.heap.size, 0, none⟩ = some (.slice b len len) ∧ w'.cell? ⟨w6.heap.size, 1, none⟩ = some (.int .i64 gap) ∧ w'.cell? ⟨w6.heap.size, 2, none⟩ = some (.slice b' len' len')) (first | go_keep | (go_split_ands; refine ⟨?_, ?_, ?_, ?_, ?_, ?_⟩ <;> exact cellLater hB7 (by assumption)) | (go_split_ands; refine ⟨?_, ?_, ?_, ?_, ?_, ?_⟩ <;> exact cellLater hB8 (by assumption))) ((first | (go_at_call 9; refine (toLine_any _ _ _ g _ _ _ _ f _ hl hl' hml I6 T6).mono ?_; rintro e wa ⟨⟨k, k', rfl, J7, U7⟩, hB7⟩; replace J := J.grow hB7; replace U := U.grow hB7) | (go_at_call 13; refine (eqLine_same _ _ _ g _ _ _ _ f _ _ _ _ _ hl hl' hml J U (J7.mono (Nat.zero_le _) (Nat.le_refl _)) (U7.mono (Nat.zero_le _) (Nat.le_refl _))).mono ?_; rintro e wb ⟨rfl, hB8⟩)))
    have hBe : Below w9.heap.size w9 wb := Below.join (Below.join (Below.refl _ _).drew (Nat.le_refl _) hB7) (Nat.le_refl _) hB8
    replace u0 := cellLater hBe u0
    replace q3 := cellLater hBe q3
    replace D := (D.grow hB7).grow hB8
    replace hBc := Below.join (Below.join hBc (Nat.le_refl _) hB7) (Nat.le_refl _) hB8
    clear hBe hB7 hB8 J U J7 U7 I6 T6 x0 x1 x2 q0 q1 q2
    go_wp2
    have hDr : Below wb.heap.size wb wb.drew := (Below.refl _ _).drew
    replace D := D.grow hDr
    replace hBc := Below.join hBc (Nat.le_refl _) hDr
    have P6 := hP.grow hBc
    clear hDr
    go_region_held3 (fun w' => w'.cell? ⟨w.heap.size + 1, 0, none⟩ = some (.slice c np nc) ∧ w'.cell? ⟨w7.heap.size, 0, none⟩ = some (.slice d np np)) (first | go_keep | (go_split_ands; refine ⟨?_, ?_⟩ <;> exact cellLater hB7 (by assumption)) | (go_split_ands; refine ⟨?_, ?_⟩ <;> exact cellLater hB8 (by assumption))) ((first | (go_at_call 10; refine (toPlan_any _ _ _ P _ hp hmp P6).mono ?_; rintro e wc ⟨⟨k, rfl, D7⟩, hB7⟩; replace D := D.grow hB7) | (go_at_call 14; refine (eqPlan_same _ _ _ _ _ P _ hp hmp D (D7.mono (Nat.zero_le _) (Nat.le_refl _))).mono ?_; rintro e wd ⟨rfl, hB8⟩)))
    go_wp2
    go_ret
    exact ⟨rfl, Below.join (Below.join hBc (Nat.le_refl _) hB7) (Nat.le_refl _) hB8⟩
  · have hBX : Below w2.heap.size w2 ((((w5.setCell ⟨w2.heap.size, 0, none⟩ (.int .i64 v0)).setCell ⟨w2.heap.size, 1, none⟩ (.int .i64 v1)).setCell ⟨w2.heap.size, 2, none⟩ (.int .i64 v2)).setCell ⟨w2.heap.size, 3, none⟩ (.int .i64 v3)) := below_set4 hb5 (by omega) _ _ _ _
    obtain ⟨k0, k1, k2, k3⟩ := set4_at r0 r1 r2 r3 (.int .i64 v0) (.int .i64 v1) (.int .i64 v2) (.int .i64 v3)
    generalize ((((w5.setCell ⟨w2.heap.size, 0, none⟩ (.int .i64 v0)).setCell ⟨w2.heap.size, 1, none⟩ (.int .i64 v1)).setCell ⟨w2.heap.size, 2, none⟩ (.int .i64 v2)).setCell ⟨w2.heap.size, 3, none⟩ (.int .i64 v3)) = XX at hBX k0 k1 k2 k3 ⊢
    generalize w2.heap.size = qb at k0 k1 k2 k3 ⊢
    clear hb0 hb0a hb3 hb3a hb4 hb4a hb5 hb5a hb5v hw34 hw45 hB3 hB4 hB5 J U D hSp hSV hIV hTV hPV hE s3 s4 lw lw0 hS r0 r1 r2 r3 z0 z1 z2 z3 hSs
    replace q0 := cellLater hBX q0
    replace q1 := cellLater hBX q1
    replace q2 := cellLater hBX q2
    replace q3 := cellLater hBX q3
    replace hBc := Below.join hBc (Nat.le_refl _) hBX
    clear hBX
    go_wp2_with (first | (go_at_call 9; refine (toLine_any _ _ _ g _ _ _ _ f _ hl hl' hml (hI.grow hBc) (hT.grow hBc)).mono ?_; rintro e w6 ⟨⟨b, b', rfl, J, U⟩, hB⟩; replace q0 := cellLater hB q0; replace q1 := cellLater hB q1; replace q2 := cellLater hB q2; replace q3 := cellLater hB q3; replace k0 := cellLater hB k0; replace k1 := cellLater hB k1; replace k2 := cellLater hB k2; replace k3 := cellLater hB k3; replace hBc := Below.join hBc (Nat.le_refl _) hB; have hS := ltCell q0; have hS3 := ltCell q3; clear hB))
    have hN := b1 w6 (.cells #[.slice b len len, .int .i64 gap, .slice b' len' len'] 36)
    replace J := (J.mono (m₁ := 0) (Nat.zero_le _) (Nat.le_refl _)).grow hN
    replace U := (U.mono (m₁ := 0) (Nat.zero_le _) (Nat.le_refl _)).grow hN
    obtain ⟨x0, x1, x2⟩ := new3 w6 (.slice b len len) (.int .i64 gap) (.slice b' len' len') 36
    replace q0 := cellLater hN q0
    replace q1 := cellLater hN q1
    replace q2 := cellLater hN q2
    replace q3 := cellLater hN q3
    replace k0 := cellLater hN k0
    replace k1 := cellLater hN k1
    replace k2 := cellLater hN k2
    replace k3 := cellLater hN k3
    replace hBc := Below.join hBc (Nat.le_refl _) hN
    clear hN hS hS3
    refine (toPlanC_any _ _ _ P _ hp hmp (hP.grow hBc)).mono ?_
    rintro e w7 ⟨⟨d, rfl, D, hCp⟩, hB⟩
    replace J := J.grow hB
    replace U := U.grow hB
    replace x0 := cellLater hB x0
    replace x1 := cellLater hB x1
    replace x2 := cellLater hB x2
    replace q0 := cellLater hB q0
    replace q1 := cellLater hB q1
    replace q2 := cellLater hB q2
    replace q3 := cellLater hB q3
    replace k0 := cellLater hB k0
    replace k1 := cellLater hB k1
    replace k2 := cellLater hB k2
    replace k3 := cellLater hB k3
    replace hBc := Below.join hBc (Nat.le_refl _) hB
    have l0 := ltCell q0
    have l3 := ltCell q3
    have lx := ltCell x0
    clear hB
    have hN := b1 w7 (.cells #[.slice d np np] 38)
    have u0 : (w7.alloc (.cells #[.slice d np np] 38)).cell? ⟨w7.heap.size, 0, none⟩ = some (.slice d np np) := by simp
    replace J := J.grow hN
    replace U := U.grow hN
    replace D := (D.mono (m₁ := 0) (Nat.zero_le _) (Nat.le_refl _)).grow hN
    replace hCp := hCp.later hN
    replace hBc := Below.join hBc (Nat.le_refl _) hN
    have hg0 := cellLater hBc hg
    go_wp2_with (first | (go_at_call 11; refine (hIm _ _ _ _ J U D hCp hg0).mono ?_; rintro e w8 ⟨rfl, hB⟩; have hMK := Below.join hN (Nat.le_refl _) hB; replace k0 := cellLater hMK k0; replace k1 := cellLater hMK k1; replace k2 := cellLater hMK k2; replace k3 := cellLater hMK k3; have lk := ltCell k0; dsimp only at lk) | (go_at_call 12; refine (eqClash_same v0 v1 v2 v3 _).mono ?_; rintro e w9 ⟨rfl, hB9⟩))
    have hMM := Below.join (Below.join hB (Nat.le_refl _) (b1 w8 (.cells #[.int .i64 v0, .int .i64 v1, .int .i64 v2, .int .i64 v3] 32))) (Nat.le_refl _) hB9
    have hM := Below.join hN (Nat.le_refl _) hMM
    replace J := J.grow hMM
    replace U := U.grow hMM
    replace D := D.grow hMM
    replace u0 := cellLater hMM u0
    replace x0 := cellLater hM x0
    replace x1 := cellLater hM x1
    replace x2 := cellLater hM x2
    replace q0 := cellLater hM q0
    replace q1 := cellLater hM q1
    replace q2 := cellLater hM q2
    replace q3 := cellLater hM q3
    replace hBc := Below.join hBc (Nat.le_refl _) hMM
    clear hB hB9 hMM hM hMK hN hg0 l0 l3 lx lk k0 k1 k2 k3 hCp
    have hDr : Below w9.heap.size w9 w9.drew := (Below.refl _ _).drew
    replace J := J.grow hDr
    replace U := U.grow hDr
    replace D := D.grow hDr
    replace hBc := Below.join hBc (Nat.le_refl _) hDr
    have I6 := hI.grow hBc
    have T6 := hT.grow hBc
    clear hDr
    go_region_held3 (fun w' => w'.cell? ⟨w.heap.size, 0, none⟩ = some (.slice a len cap) ∧ w'.cell? ⟨w.heap.size, 1, none⟩ = some (.int .i64 gap) ∧ w'.cell? ⟨w.heap.size, 2, none⟩ = some (.slice a' len' cap') ∧ w'.cell? ⟨w6.heap.size, 0, none⟩ = some (.slice b len len) ∧ w'.cell? ⟨w6.heap.size, 1, none⟩ = some (.int .i64 gap) ∧ w'.cell? ⟨w6.heap.size, 2, none⟩ = some (.slice b' len' len')) (first | go_keep | (go_split_ands; refine ⟨?_, ?_, ?_, ?_, ?_, ?_⟩ <;> exact cellLater hB7 (by assumption)) | (go_split_ands; refine ⟨?_, ?_, ?_, ?_, ?_, ?_⟩ <;> exact cellLater hB8 (by assumption))) ((first | (go_at_call 9; refine (toLine_any _ _ _ g _ _ _ _ f _ hl hl' hml I6 T6).mono ?_; rintro e wa ⟨⟨k, k', rfl, J7, U7⟩, hB7⟩; replace J := J.grow hB7; replace U := U.grow hB7) | (go_at_call 13; refine (eqLine_same _ _ _ g _ _ _ _ f _ _ _ _ _ hl hl' hml J U (J7.mono (Nat.zero_le _) (Nat.le_refl _)) (U7.mono (Nat.zero_le _) (Nat.le_refl _))).mono ?_; rintro e wb ⟨rfl, hB8⟩)))
    have hBe : Below w9.heap.size w9 wb := Below.join (Below.join (Below.refl _ _).drew (Nat.le_refl _) hB7) (Nat.le_refl _) hB8
    replace u0 := cellLater hBe u0
    replace q3 := cellLater hBe q3
    replace D := (D.grow hB7).grow hB8
    replace hBc := Below.join (Below.join hBc (Nat.le_refl _) hB7) (Nat.le_refl _) hB8
    clear hBe hB7 hB8 J U J7 U7 I6 T6 x0 x1 x2 q0 q1 q2
    go_wp2
    have hDr : Below wb.heap.size wb wb.drew := (Below.refl _ _).drew
    replace D := D.grow hDr
    replace hBc := Below.join hBc (Nat.le_refl _) hDr
    have P6 := hP.grow hBc
    clear hDr
    go_region_held3 (fun w' => w'.cell? ⟨w.heap.size + 1, 0, none⟩ = some (.slice c np nc) ∧ w'.cell? ⟨w7.heap.size, 0, none⟩ = some (.slice d np np)) (first | go_keep | (go_split_ands; refine ⟨?_, ?_⟩ <;> exact cellLater hB7 (by assumption)) | (go_split_ands; refine ⟨?_, ?_⟩ <;> exact cellLater hB8 (by assumption))) ((first | (go_at_call 10; refine (toPlan_any _ _ _ P _ hp hmp P6).mono ?_; rintro e wc ⟨⟨k, rfl, D7⟩, hB7⟩; replace D := D.grow hB7) | (go_at_call 14; refine (eqPlan_same _ _ _ _ _ P _ hp hmp D (D7.mono (Nat.zero_le _) (Nat.le_refl _))).mono ?_; rintro e wd ⟨rfl, hB8⟩)))
    go_wp2
    go_ret
    exact ⟨rfl, Below.join (Below.join hBc (Nat.le_refl _) hB7) (Nat.le_refl _) hB8⟩
end Go.Proofs.YtnkcolffjkjclabDoor
