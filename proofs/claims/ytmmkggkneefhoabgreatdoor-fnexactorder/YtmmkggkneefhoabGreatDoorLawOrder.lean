/-
  The law of Order: walked.
-/
import Derived.Test.YtmmkggkneefhoabGreatDoorOrderS
import Derived.Test.YtmmkggkneefhoabGreatDoorNumL
namespace Go.Proofs.YtmmkggkneefhoabGreatDoor
open Go.RowKit

set_option maxRecDepth 20000 in
set_option maxHeartbeats 16000000 in
theorem lawOrder_any (a : Option Addr) (len cap : Nat) (g : Nat → Int) (gap : Int) (a' : Option Addr) (len' cap' : Nat) (f : Nat → TrainD) (c : Option Addr) (np nc : Nat) (P : Nat → RowD) (w : World) (hm : len ≤ maxLen) (hm' : len' ≤ maxLen) (hmp0 : np ≤ maxLen)
    (hI : IsInts 0 w.heap.size w a len g) (hT : IsTrains 0 w.heap.size w a' len' f) (hP : IsRows 0 w.heap.size w c np P) (hg : w.cell? ⟨0, 0, none⟩ = some (.iface 259 (.agg #[.pointer (some ⟨1, 177, none⟩)]))) :
    Calls Tryz.prog 5 #[.agg #[.slice a len cap, .int .i64 gap, .slice a' len' cap'], .agg #[.slice c np nc]] w fun e w' => e = .returned (.bool true) ∧ Below w.heap.size w w' := by
  obtain ⟨n0, n1, n2, m0⟩ := box2 w a len cap gap a' len' cap' c np nc 25 51
  have hMl := orderOf_len len g gap len' f np P
  have hSp := fun V b b' d h0 h1 h2 h3 h4 hJ hU hD => specOrder_any b len len g gap b' len' len' f d np np P V h0 h1 h2 h3 h4 hJ hU hD
  have hIm := fun V b b' d h0 h1 h2 h3 h4 hJ hU hD hCp hg => implOrder_any b len len g gap b' len' len' f d np np P V h0 h1 h2 h3 h4 hJ hU hD hCp hg
  generalize orderOf len g gap len' f np P = M at hMl hSp hIm
  go_enter Tryz.func5, Tryz.ntmps5
  go_wp2_with (first | (go_at_call 7; refine (szLine_any _ _ _ _ _ _ _ f _ hm hm' (hT.grow (b2 _ _ _))).mono ?_; rintro e w1 ⟨⟨r, rfl, hr1, hr'⟩, hB⟩; have hr : Hid _ := hr'; clear hr'; have hBc := Below.join (b2 w _ _) (Nat.le_refl _) hB; have q0 := cellLater hB n0; have q1 := cellLater hB n1; have q2 := cellLater hB n2; have q3 := cellLater hB m0; clear n0 n1 n2 m0; have hS := ltCell q0))
  · go_ret
    exact ⟨rfl, hBc⟩
  obtain ⟨hl, hl', hml⟩ := hr.out (by omega)
  clear hr hB
  go_wp2_with (first | (go_at_call 24; refine (szPlan_any _ _ _ P _ _ hmp0 (by omega) hr1 (hP.grow hBc)).mono ?_; rintro e w2 ⟨⟨r2, rfl, hr2, hr'⟩, hB⟩; have hr : Hid _ := hr'; clear hr'; replace hBc := Below.join hBc (Nat.le_refl _) hB; replace q0 := cellLater hB q0; replace q1 := cellLater hB q1; replace q2 := cellLater hB q2; replace q3 := cellLater hB q3; replace hS := ltCell q0))
  · go_ret
    exact ⟨rfl, hBc⟩
  obtain ⟨hp, hmp⟩ := hr.out (by omega)
  clear hr hB
  replace hSp := fun V b b' d => hSp V b b' d hl hl' hml hp hmp
  replace hIm := fun V b b' d => hIm V b b' d hl hl' hml hp hmp
  have I1 := hI.grow hBc.drew
  have T1 := hT.grow hBc.drew
  have P1 := hP.grow hBc.drew
  go_wp2
  go_region_held3 (fun w' => w'.cell? ⟨w.heap.size, 0, none⟩ = some (.slice a len cap) ∧ w'.cell? ⟨w.heap.size, 1, none⟩ = some (.int .i64 gap) ∧ w'.cell? ⟨w.heap.size, 2, none⟩ = some (.slice a' len' cap') ∧ w'.cell? ⟨w.heap.size + 1, 0, none⟩ = some (.slice c np nc)) (first | go_keep | (go_split_ands; refine ⟨?_, ?_, ?_, ?_⟩ <;> exact cellLater hB3 (by assumption)) | (go_split_ands; refine ⟨?_, ?_, ?_, ?_⟩ <;> exact cellLater hB4 (by assumption)) | (go_split_ands; refine ⟨?_, ?_, ?_, ?_⟩ <;> exact cellLater hB5 (by assumption))) ((first | (go_at_call 9; refine (toLine_any _ _ _ g _ _ _ _ f _ hl hl' hml I1 T1).mono ?_; rintro e w3 ⟨⟨b, b', rfl, J, U⟩, hB3⟩; replace P1 := P1.grow hB3) | (go_at_call 26; refine (toPlan_any _ _ _ P _ hp hmp P1).mono ?_; rintro e w4 ⟨⟨d, rfl, D⟩, hB4⟩; replace J := (J.mono (m₁ := 0) (Nat.zero_le _) (Nat.le_refl _)).grow hB4; replace U := (U.mono (m₁ := 0) (Nat.zero_le _) (Nat.le_refl _)).grow hB4) | (go_at_call 25; refine (hSp _ _ _ _ J U (D.mono (Nat.zero_le _) (Nat.le_refl _))).mono ?_; rintro e w5 ⟨⟨vW, rfl, hO0⟩, hB5⟩)))
  have hBd : Below w2.heap.size w2 w5 := Below.join (Below.join (Below.join (Below.refl _ _).drew (Nat.le_refl _) hB3) (Nat.le_refl _) hB4) (Nat.le_refl _) hB5
  have S0 := isNums_of hO0
  replace q0 := cellLater hBd q0
  replace q1 := cellLater hBd q1
  replace q2 := cellLater hBd q2
  replace q3 := cellLater hBd q3
  replace hBc := Below.join hBc (Nat.le_refl _) hBd
  have lw5 := hBc.size
  have lq5 : w.heap.size + 1 < w5.heap.size := ltCell q3
  clear hS I1 T1 P1 J U D hB3 hB4 hB5 hBd hO0 hSp
  go_wp2_with (first | (go_at_call 9; refine (toLineM_any _ _ _ g _ _ _ _ f _ hl hl' hml (hI.grow hBc) (hT.grow hBc)).mono ?_; rintro e w6 ⟨⟨b, b', rfl, J, U, md, hlo, hhi, sJ, sU⟩, hB⟩; replace q0 := cellLater hB q0; replace q1 := cellLater hB q1; replace q2 := cellLater hB q2; replace q3 := cellLater hB q3; replace hBc := Below.join hBc (Nat.le_refl _) hB; have hS := ltCell q0; have hS3 := ltCell q3))
  have hN := b1 w6 (.cells #[.slice b len len, .int .i64 gap, .slice b' len' len'] 35)
  have h5 := Below.join hB (Nat.le_refl _) hN
  have l56 := hB.size
  replace J := (J.mono (m₁ := 0) (Nat.zero_le _) (Nat.le_refl _)).grow hN
  replace U := (U.mono (m₁ := 0) (Nat.zero_le _) (Nat.le_refl _)).grow hN
  replace sJ := sJ.later hN
  replace sU := sU.later hN
  obtain ⟨x0, x1, x2⟩ := new3 w6 (.slice b len len) (.int .i64 gap) (.slice b' len' len') 35
  replace q0 := cellLater hN q0
  replace q1 := cellLater hN q1
  replace q2 := cellLater hN q2
  replace q3 := cellLater hN q3
  replace hBc := Below.join hBc (Nat.le_refl _) hN
  clear hN hS hS3 hB
  refine (toPlanM_any _ _ _ P _ hp hmp (hP.grow hBc)).mono ?_
  rintro e w7 ⟨⟨d, rfl, D, hCp, sD⟩, hB⟩
  replace J := J.grow hB
  replace U := U.grow hB
  replace sJ := sJ.later hB
  replace sU := sU.later hB
  replace x0 := cellLater hB x0
  replace x1 := cellLater hB x1
  replace x2 := cellLater hB x2
  replace q0 := cellLater hB q0
  replace q1 := cellLater hB q1
  replace q2 := cellLater hB q2
  replace q3 := cellLater hB q3
  replace h5 := Below.join h5 (Nat.le_refl _) hB
  replace hBc := Below.join hBc (Nat.le_refl _) hB
  have l67 : w6.heap.size + 1 ≤ w7.heap.size := by have := hB.size; simpa using this
  replace sD : SoftR (w6.heap.size + 1) w7.heap.size w7 d np (fun j => (P j).n) := sD.mono (by simp) (Nat.le_refl _)
  have l0 := ltCell q0
  have l3 := ltCell q3
  have lx := ltCell x0
  clear hB
  have hN := b1 w7 (.cells #[.slice d np np] 29)
  have u0 : (w7.alloc (.cells #[.slice d np np] 29)).cell? ⟨w7.heap.size, 0, none⟩ = some (.slice d np np) := by simp
  replace J := J.grow hN
  replace U := U.grow hN
  replace sJ := sJ.later hN
  replace sU := sU.later hN
  replace sD := sD.later hN
  replace D := (D.mono (m₁ := 0) (Nat.zero_le _) (Nat.le_refl _)).grow hN
  replace hCp := hCp.later hN
  replace h5 := Below.join h5 (Nat.le_refl _) hN
  replace hBc := Below.join hBc (Nat.le_refl _) hN
  have hg0 := cellLater hBc hg
  go_wp2_with (first | (go_at_call 27; refine (hIm _ _ _ _ J U D hCp hg0).mono ?_; rintro e w8 ⟨⟨vG, rfl, hO1⟩, hB⟩) | (go_at_call 14; refine (eqNums_same _ _ M _ (by omega) (isNums_of hO1) (S0.later (Below.join h5 (Nat.le_refl _) hB))).mono ?_; rintro e w9 ⟨rfl, hB9⟩))
  have hM := Below.join (Below.join hN (Nat.le_refl _) hB) (Nat.le_refl _) hB9
  have hM1 := Below.join hB (Nat.le_refl _) hB9
  replace hO1 : w9.ownsRow (w7.heap.size + 1) 3 1 vG M.length (intCells M) := ownsRow_later (Joins.ownsRow_le hO1 (by simp)) hB9
  replace J := J.grow hM1
  replace U := U.grow hM1
  replace D := D.grow hM1
  replace sJ := sJ.later hM1
  replace sU := sU.later hM1
  replace sD := sD.later hM1
  replace x0 := cellLater hM x0
  replace x1 := cellLater hM x1
  replace x2 := cellLater hM x2
  replace u0 := cellLater hM1 u0
  replace q0 := cellLater hM q0
  replace q1 := cellLater hM q1
  replace q2 := cellLater hM q2
  replace q3 := cellLater hM q3
  replace h5 := Below.join h5 (Nat.le_refl _) hM1
  replace hBc := Below.join hBc (Nat.le_refl _) hM1
  clear hB hB9 hM hM1 hN hg0 l0 l3 lx hCp
  have hDr : Below w9.heap.size w9 w9.drew := (Below.refl _ _).drew
  replace J := J.grow hDr
  replace U := U.grow hDr
  replace D := D.grow hDr
  have hBc2 := Below.join hBc (Nat.le_refl _) hDr
  have I6 := hI.grow hBc2
  have T6 := hT.grow hBc2
  go_region_held3 (fun w' => w'.cell? ⟨w.heap.size, 0, none⟩ = some (.slice a len cap) ∧ w'.cell? ⟨w.heap.size, 1, none⟩ = some (.int .i64 gap) ∧ w'.cell? ⟨w.heap.size, 2, none⟩ = some (.slice a' len' cap') ∧ w'.cell? ⟨w6.heap.size, 0, none⟩ = some (.slice b len len) ∧ w'.cell? ⟨w6.heap.size, 1, none⟩ = some (.int .i64 gap) ∧ w'.cell? ⟨w6.heap.size, 2, none⟩ = some (.slice b' len' len')) (first | go_keep | (go_split_ands; refine ⟨?_, ?_, ?_, ?_, ?_, ?_⟩ <;> exact cellLater hB7 (by assumption)) | (go_split_ands; refine ⟨?_, ?_, ?_, ?_, ?_, ?_⟩ <;> exact cellLater hB8 (by assumption))) ((first | (go_at_call 9; refine (toLine_any _ _ _ g _ _ _ _ f _ hl hl' hml I6 T6).mono ?_; rintro e w10 ⟨⟨k, k', rfl, J7, U7⟩, hB7⟩; replace J := J.grow hB7; replace U := U.grow hB7) | (go_at_call 13; refine (eqLine_same _ _ _ g _ _ _ _ f _ _ _ _ _ hl hl' hml J U (J7.mono (Nat.zero_le _) (Nat.le_refl _)) (U7.mono (Nat.zero_le _) (Nat.le_refl _))).mono ?_; rintro e w11 ⟨rfl, hB8⟩)))
  have hBe : Below w9.heap.size w9 w11 := Below.join (Below.join (Below.refl _ _).drew (Nat.le_refl _) hB7) (Nat.le_refl _) hB8
  replace x0 := cellLater hBe x0
  replace x1 := cellLater hBe x1
  replace x2 := cellLater hBe x2
  replace u0 := cellLater hBe u0
  replace q0 := cellLater hBe q0
  replace q1 := cellLater hBe q1
  replace q2 := cellLater hBe q2
  replace q3 := cellLater hBe q3
  replace D := (D.grow hB7).grow hB8
  replace sJ := sJ.later hBe
  replace sU := sU.later hBe
  replace sD := sD.later hBe
  replace hO1 := ownsRow_later hO1 hBe
  replace h5 := Below.join h5 (Nat.le_refl _) hBe
  replace hBc := Below.join hBc (Nat.le_refl _) hBe
  clear hBe hB7 hB8 J U J7 U7 I6 T6 hBc2 hDr
  go_wp2
  have hDr : Below w11.heap.size w11 w11.drew := (Below.refl _ _).drew
  replace D := D.grow hDr
  have hBc2 := Below.join hBc (Nat.le_refl _) hDr
  have P6 := hP.grow hBc2
  go_region_held3 (fun w' => w'.cell? ⟨w.heap.size + 1, 0, none⟩ = some (.slice c np nc) ∧ w'.cell? ⟨w7.heap.size, 0, none⟩ = some (.slice d np np)) (first | go_keep | (go_split_ands; refine ⟨?_, ?_⟩ <;> exact cellLater hB7 (by assumption)) | (go_split_ands; refine ⟨?_, ?_⟩ <;> exact cellLater hB8 (by assumption))) ((first | (go_at_call 26; refine (toPlan_any _ _ _ P _ hp hmp P6).mono ?_; rintro e w12 ⟨⟨k, rfl, D7⟩, hB7⟩; replace D := D.grow hB7) | (go_at_call 28; refine (eqPlan_same _ _ _ _ _ P _ hp hmp D (D7.mono (Nat.zero_le _) (Nat.le_refl _))).mono ?_; rintro e w13 ⟨rfl, hB8⟩)))
  have hBe : Below w11.heap.size w11 w13 := Below.join (Below.join (Below.refl _ _).drew (Nat.le_refl _) hB7) (Nat.le_refl _) hB8
  replace x0 := cellLater hBe x0
  replace x1 := cellLater hBe x1
  replace x2 := cellLater hBe x2
  replace u0 := cellLater hBe u0
  replace q0 := cellLater hBe q0
  replace q1 := cellLater hBe q1
  replace q2 := cellLater hBe q2
  replace q3 := cellLater hBe q3
  replace sJ := sJ.later hBe
  replace sU := sU.later hBe
  replace sD := sD.later hBe
  replace hO1 := ownsRow_later hO1 hBe
  replace h5 := Below.join h5 (Nat.le_refl _) hBe
  replace hBc := Below.join hBc (Nat.le_refl _) hBe
  have l13 : w7.heap.size + 1 ≤ w13.heap.size := by have := ltCell u0; dsimp only at this; omega
  clear hBe hB7 hB8 D D7 P6 hBc2 hDr
  have l0 := ltCell q0
  have l3 := ltCell q3
  dsimp only at l0 l3
  go_wp2_with (first | (go_at_call 15; refine (markLine_any _ _ _ _ _ _ _ (fun j => (f j).nl) _ w5.heap.size md w6.heap.size hl hl' hml hlo hhi (by omega) sJ sU).mono ?_; rintro e w14 ⟨⟨r14, rfl, hr3, hr4⟩, hM14⟩; replace u0 := hM14.cellAbove (by omega) u0) | (go_at_call 29; refine (markPlan_any _ _ _ (fun j => (P j).n) _ _ (w6.heap.size + 1) w7.heap.size hp hmp (by omega) (by omega) (by have := hM14.below.size; omega) l67 (sD.mid hM14 (by omega))).mono ?_; rintro e w15 ⟨⟨r15, rfl, hr5, hr6⟩, hM15⟩; have hMM := (hM14.mono (Nat.le_refl _) (hi' := w7.heap.size) (by omega)).trans (hM15.mono (lo' := w5.heap.size) (by omega) (Nat.le_refl _)); have h5' := h5.trans hMM.below; replace hO1 := ownsRow_same hO1 (fun k hk => hMM.above k (by have := (hO1.lt k hk).1; omega) (hO1.lt k hk).2); have hr7 : ¬ (r15 < 0) := (by omega)) | (go_at_call 14; refine (eqNums_same _ _ M _ (by omega) (isNums_of hO1) (S0.later h5')).mono ?_; rintro e w16 ⟨rfl, hB9⟩; replace h5' := Below.join h5' (Nat.le_refl _) hB9; replace hO1 := ownsRow_later hO1 hB9) | (go_at_call 16; refine (markNums_any _ (w7.heap.size + 1) M.length _ _ _ (by omega) (by omega) (by omega) hO1).mono ?_; rintro e w17 ⟨rfl, hH17, hM17⟩; have h5'' := h5'.trans (hM17.below.mono (by omega))) | (go_at_call 30; refine (heldNums_any _ M.length _ _ (by omega) (by omega) (by omega) hH17).mono ?_; rintro e w18 ⟨rfl, hB18⟩))
  have hB1318 : Below w5.heap.size w13 w18 := ((hMM.below.trans (hB9.mono (by have := hMM.below.size; omega))).trans (hM17.below.mono (by omega))).trans (hB18.mono (by have h1 := hMM.below.size; have h2 := hB9.size; have h3 := hM17.below.size; omega))
  have hBc18 : Below w.heap.size w w18 := hBc.trans (hB1318.mono (by omega))
  have h518 : Below w5.heap.size w5 w18 := h5.trans hB1318
  replace q0 := (hB1318.cell (p := ⟨w.heap.size, 0, none⟩) (by dsimp only; omega)).trans q0
  replace q1 := (hB1318.cell (p := ⟨w.heap.size, 1, none⟩) (by dsimp only; omega)).trans q1
  replace q2 := (hB1318.cell (p := ⟨w.heap.size, 2, none⟩) (by dsimp only; omega)).trans q2
  replace q3 := (hB1318.cell (p := ⟨w.heap.size + 1, 0, none⟩) (by dsimp only; omega)).trans q3
  have I1 := hI.grow hBc18.drew
  have T1 := hT.grow hBc18.drew
  have P1 := hP.grow hBc18.drew
  have hH18 := hH17.later hB18
  clear x0 x1 x2 u0 sJ sU sD hM14 hM15 hMM hM17 hB9 hB1318 h5 h5' h5'' hBc hO1 hH17 hB18 l0 l3
  have hBg : Below w18.heap.size w18 w18.drew := (Below.refl _ _).drew
  go_region_held3 (fun w' => w'.cell? ⟨w.heap.size, 0, none⟩ = some (.slice a len cap) ∧ w'.cell? ⟨w.heap.size, 1, none⟩ = some (.int .i64 gap) ∧ w'.cell? ⟨w.heap.size, 2, none⟩ = some (.slice a' len' cap') ∧ w'.cell? ⟨w.heap.size + 1, 0, none⟩ = some (.slice c np nc)) (first | go_keep | (go_split_ands; refine ⟨?_, ?_, ?_, ?_⟩ <;> exact cellLater hB3 (by assumption)) | (go_split_ands; refine ⟨?_, ?_, ?_, ?_⟩ <;> exact cellLater hB4 (by assumption)) | (go_split_ands; refine ⟨?_, ?_, ?_, ?_⟩ <;> exact cellLater hB5 (by assumption))) ((first | (go_at_call 9; refine (toLine_any _ _ _ g _ _ _ _ f _ hl hl' hml I1 T1).mono ?_; rintro e w19 ⟨⟨b2', b3', rfl, J, U⟩, hB3⟩; replace P1 := P1.grow hB3; replace hBg := Below.join hBg (Nat.le_refl _) hB3) | (go_at_call 26; refine (toPlanC_any _ _ _ P _ hp hmp P1).mono ?_; rintro e w20 ⟨⟨d2, rfl, D, hCp⟩, hB4⟩; replace J := (J.mono (m₁ := 0) (Nat.zero_le _) (Nat.le_refl _)).grow hB4; replace U := (U.mono (m₁ := 0) (Nat.zero_le _) (Nat.le_refl _)).grow hB4; replace hBg := Below.join hBg (Nat.le_refl _) hB4) | (go_at_call 27; refine (hIm _ _ _ _ J U (D.mono (Nat.zero_le _) (Nat.le_refl _)) hCp (cellLater (Below.join hBc18 (Nat.le_refl _) hBg) hg)).mono ?_; rintro e w21 ⟨⟨vH, rfl, hO2⟩, hB5⟩; replace hBg := Below.join hBg (Nat.le_refl _) hB5)))
  have S2 := S0.later (Below.join h518 (Nat.le_refl _) hBg)
  have H2 := hH18.later hBg
  replace hBc18 := Below.join hBc18 (Nat.le_refl _) hBg
  have G2 := isNums_of hO2
  clear q0 q1 q2 q3 I1 T1 P1 J U D hCp hB3 hB4 hB5 hBg hO2 S0 hH18
  go_wp2_with (first | (go_at_call 14; refine (eqNums_same _ _ M _ (by omega) G2 S2).mono ?_; rintro e w22 ⟨rfl, hB22⟩; replace H2 := H2.later hB22) | (go_at_call 30; refine (heldNums_any _ M.length _ _ (by omega) (by omega) (by omega) H2).mono ?_; rintro e w23 ⟨rfl, hB23⟩))
  go_ret
  exact ⟨rfl, Below.join (Below.join hBc18 (Nat.le_refl _) hB22) (Nat.le_refl _) hB23⟩
end Go.Proofs.YtmmkggkneefhoabGreatDoor
