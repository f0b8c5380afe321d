/-
  The law of Diagram: walked.
-/
import Derived.Test.YthnlkpifafklkaaGreatDoorDiagS
import Derived.Test.YthnlkpifafklkaaGreatDoorDiagI
import Derived.Test.YthnlkpifafklkaaGreatDoorSz
import Derived.Test.YthnlkpifafklkaaGreatDoorTo
import Derived.Test.YthnlkpifafklkaaGreatDoorEq
namespace Go.Proofs.YthnlkpifafklkaaGreatDoor
open Go.RowKit

set_option maxRecDepth 20000 in
set_option maxHeartbeats 8000000 in
theorem lawDiag_any (a : Option Addr) (len cap : Nat) (g : Nat → Int) (gap : Int) (a' : Option Addr) (len' cap' : Nat) (f : Nat → TrainD) (c : Option Addr) (np nc : Nat) (P : Nat → RowD) (w : World) (hm : len ≤ maxLen) (hm' : len' ≤ maxLen) (hmp0 : np ≤ maxLen)
    (hI : IsInts 0 w.heap.size w a len g) (hT : IsTrains 0 w.heap.size w a' len' f) (hP : IsRows 0 w.heap.size w c np P) (hg : w.cell? ⟨0, 0, none⟩ = some (.iface 184 (.agg #[.pointer (some ⟨10, 129, none⟩)]))) (hTn : TenIs w) :
    Calls Tryz.prog 5 #[.agg #[.slice a len cap, .int .i64 gap, .slice a' len' cap'], .agg #[.slice c np nc]] w fun e w' => e = .returned (.bool true) ∧ Below w.heap.size w w' := by
  obtain ⟨n0, n1, n2, m0⟩ := box2 w a len cap gap a' len' cap' c np nc 25 51
  go_enter Tryz.func5, Tryz.ntmps5
  go_wp2_with (first | (go_at_call 6; refine (szLine_any _ _ _ _ _ _ _ f _ hm hm' (hT.grow (b2 _ _ _))).mono ?_; rintro e w1 ⟨⟨r, rfl, hr1, hr'⟩, hB⟩; have hr : Hid _ := hr'; clear hr'; have hBc := Below.join (b2 w _ _) (Nat.le_refl _) hB; have q0 := cellLater hB n0; have q1 := cellLater hB n1; have q2 := cellLater hB n2; have q3 := cellLater hB m0; clear n0 n1 n2 m0; have hS := ltCell q0))
  · go_ret
    exact ⟨rfl, hBc⟩
  obtain ⟨hl, hl', hml⟩ := hr.out (by omega)
  clear hr hB
  go_wp2_with (first | (go_at_call 23; refine (szPlan_any _ _ _ P _ _ hmp0 (by omega) hr1 (hP.grow hBc)).mono ?_; rintro e w2 ⟨⟨r2, rfl, hr2, hr'⟩, hB⟩; have hr : Hid _ := hr'; clear hr'; replace hBc := Below.join hBc (Nat.le_refl _) hB; replace q0 := cellLater hB q0; replace q1 := cellLater hB q1; replace q2 := cellLater hB q2; replace q3 := cellLater hB q3; replace hS := ltCell q0))
  · go_ret
    exact ⟨rfl, hBc⟩
  obtain ⟨hp, hmp⟩ := hr.out (by omega)
  clear hr hB
  have I1 := hI.grow hBc.drew
  have T1 := hT.grow hBc.drew
  have P1 := hP.grow hBc.drew
  go_wp2
  go_region_held3 (fun w' => w'.cell? ⟨w.heap.size, 0, none⟩ = some (.slice a len cap) ∧ w'.cell? ⟨w.heap.size, 1, none⟩ = some (.int .i64 gap) ∧ w'.cell? ⟨w.heap.size, 2, none⟩ = some (.slice a' len' cap') ∧ w'.cell? ⟨w.heap.size + 1, 0, none⟩ = some (.slice c np nc)) (first | go_keep | (go_split_ands; refine ⟨?_, ?_, ?_, ?_⟩ <;> exact cellLater hB3 (by assumption)) | (go_split_ands; refine ⟨?_, ?_, ?_, ?_⟩ <;> exact cellLater hB4 (by assumption)) | (go_split_ands; refine ⟨?_, ?_, ?_, ?_⟩ <;> exact cellLater hB5 (by assumption))) ((first | (go_at_call 8; refine (toLine_any _ _ _ g _ _ _ _ f _ hl hl' hml I1 T1).mono ?_; rintro e w3 ⟨⟨b, b', rfl, J, U⟩, hB3⟩; replace P1 := P1.grow hB3) | (go_at_call 25; refine (toPlan_any _ _ _ P _ hp hmp P1).mono ?_; rintro e w4 ⟨⟨d, rfl, D⟩, hB4⟩; replace J := (J.mono (m₁ := 0) (Nat.zero_le _) (Nat.le_refl _)).grow hB4; replace U := (U.mono (m₁ := 0) (Nat.zero_le _) (Nat.le_refl _)).grow hB4) | (go_at_call 24; refine (specDiag_any _ _ _ g _ _ _ _ f _ _ _ P _ hl hl' hml hp hmp J U (D.mono (Nat.zero_le _) (Nat.le_refl _))).mono ?_; rintro e w5 ⟨rfl, hB5⟩)))
  have hBd : Below w2.heap.size w2 w5 := Below.join (Below.join (Below.join (Below.refl _ _).drew (Nat.le_refl _) hB3) (Nat.le_refl _) hB4) (Nat.le_refl _) hB5
  replace q0 := cellLater hBd q0
  replace q1 := cellLater hBd q1
  replace q2 := cellLater hBd q2
  replace q3 := cellLater hBd q3
  replace hBc := Below.join hBc (Nat.le_refl _) hBd
  clear hS I1 T1 P1 J U D hB3 hB4 hB5 hBd
  go_wp2_with (first | (go_at_call 8; refine (toLine_any _ _ _ g _ _ _ _ f _ hl hl' hml (hI.grow hBc) (hT.grow hBc)).mono ?_; rintro e w6 ⟨⟨b, b', rfl, J, U⟩, hB⟩; replace q0 := cellLater hB q0; replace q1 := cellLater hB q1; replace q2 := cellLater hB q2; replace q3 := cellLater hB q3; replace hBc := Below.join hBc (Nat.le_refl _) hB; have hS := ltCell q0; have hS3 := ltCell q3; clear hB))
  have hN := b1 w6 (.cells #[.slice b len len, .int .i64 gap, .slice b' len' len'] 35)
  replace J := (J.mono (m₁ := 0) (Nat.zero_le _) (Nat.le_refl _)).grow hN
  replace U := (U.mono (m₁ := 0) (Nat.zero_le _) (Nat.le_refl _)).grow hN
  obtain ⟨x0, x1, x2⟩ := new3 w6 (.slice b len len) (.int .i64 gap) (.slice b' len' len') 35
  replace q0 := cellLater hN q0
  replace q1 := cellLater hN q1
  replace q2 := cellLater hN q2
  replace q3 := cellLater hN q3
  replace hBc := Below.join hBc (Nat.le_refl _) hN
  clear hN hS
  clear hS3
  refine (toPlanC_any _ _ _ P _ hp hmp (hP.grow hBc)).mono ?_
  rintro e w7 ⟨⟨d, rfl, D, hCp⟩, hB⟩
  replace J := J.grow hB
  replace U := U.grow hB
  replace x0 := cellLater hB x0
  replace x1 := cellLater hB x1
  replace x2 := cellLater hB x2
  replace q0 := cellLater hB q0
  replace q1 := cellLater hB q1
  replace q2 := cellLater hB q2
  replace q3 := cellLater hB q3
  replace hBc := Below.join hBc (Nat.le_refl _) hB
  have l0 := ltCell q0
  have l3 := ltCell q3
  have lx := ltCell x0
  clear hB
  have hN := b1 w7 (.cells #[.slice d np np] 29)
  have u0 : (w7.alloc (.cells #[.slice d np np] 29)).cell? ⟨w7.heap.size, 0, none⟩ = some (.slice d np np) := by simp
  replace J := J.grow hN
  replace U := U.grow hN
  replace D := (D.mono (m₁ := 0) (Nat.zero_le _) (Nat.le_refl _)).grow hN
  replace hCp := hCp.later hN
  replace hBc := Below.join hBc (Nat.le_refl _) hN
  have hg0 := cellLater hBc hg
  have hTn0 := hTn.later hBc
  go_wp2_with (go_at_call 26; refine (implDiag_any _ _ _ g _ _ _ _ f _ _ _ P _ hl hl' hml hp hmp J U D hCp hg0 hTn0).mono ?_; rintro e w8 ⟨rfl, hB⟩)
  have hM := Below.join hN (Nat.le_refl _) hB
  replace J := J.grow hB
  replace U := U.grow hB
  replace D := D.grow hB
  replace x0 := cellLater hM x0
  replace x1 := cellLater hM x1
  replace x2 := cellLater hM x2
  replace u0 := cellLater hB u0
  replace q0 := cellLater hM q0
  replace q1 := cellLater hM q1
  replace q2 := cellLater hM q2
  replace q3 := cellLater hM q3
  replace hBc := Below.join hBc (Nat.le_refl _) hB
  clear hB hM hN hg0 hTn0 l0 l3 lx
  have hDr : Below w8.heap.size w8 w8.drew := (Below.refl _ _).drew
  replace J := J.grow hDr
  replace U := U.grow hDr
  replace D := D.grow hDr
  replace hBc := Below.join hBc (Nat.le_refl _) hDr
  have I6 := hI.grow hBc
  have T6 := hT.grow hBc
  clear hDr
  go_region_held3 (fun w' => w'.cell? ⟨w.heap.size, 0, none⟩ = some (.slice a len cap) ∧ w'.cell? ⟨w.heap.size, 1, none⟩ = some (.int .i64 gap) ∧ w'.cell? ⟨w.heap.size, 2, none⟩ = some (.slice a' len' cap') ∧ w'.cell? ⟨w6.heap.size, 0, none⟩ = some (.slice b len len) ∧ w'.cell? ⟨w6.heap.size, 1, none⟩ = some (.int .i64 gap) ∧ w'.cell? ⟨w6.heap.size, 2, none⟩ = some (.slice b' len' len')) (first | go_keep | (go_split_ands; refine ⟨?_, ?_, ?_, ?_, ?_, ?_⟩ <;> exact cellLater hB7 (by assumption)) | (go_split_ands; refine ⟨?_, ?_, ?_, ?_, ?_, ?_⟩ <;> exact cellLater hB8 (by assumption))) ((first | (go_at_call 8; refine (toLine_any _ _ _ g _ _ _ _ f _ hl hl' hml I6 T6).mono ?_; rintro e w9 ⟨⟨k, k', rfl, J7, U7⟩, hB7⟩; replace J := J.grow hB7; replace U := U.grow hB7) | (go_at_call 12; refine (eqLine_same _ _ _ g _ _ _ _ f _ _ _ _ _ hl hl' hml J U (J7.mono (Nat.zero_le _) (Nat.le_refl _)) (U7.mono (Nat.zero_le _) (Nat.le_refl _))).mono ?_; rintro e w10 ⟨rfl, hB8⟩)))
  have hBe : Below w8.heap.size w8 w10 := Below.join (Below.join (Below.refl _ _).drew (Nat.le_refl _) hB7) (Nat.le_refl _) hB8
  replace u0 := cellLater hBe u0
  replace q3 := cellLater hBe q3
  replace D := (D.grow hB7).grow hB8
  replace hBc := Below.join (Below.join hBc (Nat.le_refl _) hB7) (Nat.le_refl _) hB8
  clear hBe hB7 hB8 J U J7 U7 I6 T6 x0 x1 x2 q0 q1 q2
  go_wp2
  have hDr : Below w10.heap.size w10 w10.drew := (Below.refl _ _).drew
  replace D := D.grow hDr
  replace hBc := Below.join hBc (Nat.le_refl _) hDr
  have P6 := hP.grow hBc
  clear hDr
  go_region_held3 (fun w' => w'.cell? ⟨w.heap.size + 1, 0, none⟩ = some (.slice c np nc) ∧ w'.cell? ⟨w7.heap.size, 0, none⟩ = some (.slice d np np)) (first | go_keep | (go_split_ands; refine ⟨?_, ?_⟩ <;> exact cellLater hB7 (by assumption)) | (go_split_ands; refine ⟨?_, ?_⟩ <;> exact cellLater hB8 (by assumption))) ((first | (go_at_call 25; refine (toPlan_any _ _ _ P _ hp hmp P6).mono ?_; rintro e w11 ⟨⟨k, rfl, D7⟩, hB7⟩; replace D := D.grow hB7) | (go_at_call 27; refine (eqPlan_same _ _ _ _ _ P _ hp hmp D (D7.mono (Nat.zero_le _) (Nat.le_refl _))).mono ?_; rintro e w12 ⟨rfl, hB8⟩)))
  go_wp2
  go_ret
  exact ⟨rfl, Below.join (Below.join hBc (Nat.le_refl _) hB7) (Nat.le_refl _) hB8⟩
end Go.Proofs.YthnlkpifafklkaaGreatDoor
