/-
  The law of Place: walked.
  The statement of Place's law: the row, and its card.
-/
import Derived.Test.YthnlkpifafklkaaGreatDoorSpecY
import Derived.Test.YthnlkpifafklkaaGreatDoorGPlace
import Derived.Test.YthnlkpifafklkaaGreatDoorGMark
import Derived.Test.YthnlkpifafklkaaGreatDoorSz
import Derived.Test.YthnlkpifafklkaaGreatDoorEq
import Derived.Test.YthnlkpifafklkaaGreatDoorGLaid
namespace Go.Proofs.YthnlkpifafklkaaGreatDoor
open Go.RowKit

/-- how many rows an answer has -/
noncomputable def rowsOf (st : StP) (np : Nat) : Nat := if st.code = 0 then np else 0
theorem IsPlaced.form {B0 : Nat} {W : World} {st : StP} {np : Nat} {v : Value} (h : IsPlaced B0 W st np v) : ∃ c nc, v = .agg #[.int .i64 st.code, .int .i64 (st.at_ : Int), .slice c (rowsOf st np) nc] ∧ OwnP B0 W c (rowsOf st np) st.P := by
  obtain ⟨cv, rfl, h1, h2⟩ := h
  by_cases e : st.code = 0
  · obtain ⟨c, nc, rfl, h3, _⟩ := h2 e
    have hr : rowsOf st np = np := by unfold rowsOf; rw [if_pos e]
    rw [hr]
    exact ⟨c, nc, rfl, h3⟩
  · have hr : rowsOf st np = 0 := by unfold rowsOf; rw [if_neg e]
    rw [h1 e, hr]
    exact ⟨none, 0, rfl, B0, fun _ => .slice none 0 0, Nat.le_refl _, fun j hj => absurd hj (Nat.not_lt_zero j), fun j hj => absurd hj (Nat.not_lt_zero j), fun j _ hj => absurd hj (Nat.not_lt_zero j), fun j hj => absurd hj (Nat.not_lt_zero j)⟩
theorem IsPlaced.small {B0 : Nat} {W : World} {st : StP} {np : Nat} {v : Value} (h : IsPlaced B0 W st np v) : ∀ j, j < rowsOf st np → (st.P j).n ≤ 10 := by
  obtain ⟨cv, rfl, h1, h2⟩ := h
  by_cases e : st.code = 0
  · obtain ⟨c, nc, rfl, _, h3⟩ := h2 e
    have hr : rowsOf st np = np := by unfold rowsOf; rw [if_pos e]
    rw [hr]; exact h3
  · have hr : rowsOf st np = 0 := by unfold rowsOf; rw [if_neg e]
    rw [hr]; exact fun j hj => absurd hj (Nat.not_lt_zero j)
theorem rowsOf_small {len : Nat} {g : Nat → Int} {gap : Int} {np : Nat} {f : Nat → TrainD} {no : Nat} {o : Nat → Int} : rowsOf (placeSt len g gap np f no o) np ≤ 10 := by
  unfold rowsOf
  split
  · rename_i h
    by_cases hF : (faultOf len g gap np f).1 = 0 ∧ no ≤ 10
    · have := (rightL_of (faultOf_snd hF.1)).tr; omega
    · unfold placeSt at h; rw [if_neg hF] at h; simp at h
  · omega

set_option maxRecDepth 20000 in
set_option maxHeartbeats 16000000 in
theorem lawPlace_any (a : Option Addr) (len cap : Nat) (g : Nat → Int) (gap : Int) (a' : Option Addr) (len' cap' : Nat) (f : Nat → TrainD) (oa : Option Addr) (no oc : Nat) (o : Nat → Int) (w : World) (hm : len ≤ maxLen) (hm' : len' ≤ maxLen) (_hmo : no ≤ maxLen)
    (hI : IsInts 0 w.heap.size w a len g) (hT : IsTrains 0 w.heap.size w a' len' f) (hO : IsInts 0 w.heap.size w oa no o) (hg : w.cell? ⟨0, 0, none⟩ = some (.iface 184 (.agg #[.pointer (some ⟨10, 129, none⟩)]))) :
    Calls Tryz.prog 3 #[.agg #[.slice a len cap, .int .i64 gap, .slice a' len' cap'], .slice oa no oc] w fun e w' => e = .returned (.bool true) ∧ Below w.heap.size w w' := by
  obtain ⟨n0, n1, n2⟩ := new3 w (.slice a len cap) (.int .i64 gap) (.slice a' len' cap') 25
  by_cases hno : no ≤ 1048576
  · have hno' : ¬ ((1048576 : Int) < (no : Int)) := by omega
    go_enter Tryz.func3, Tryz.ntmps3
    go_wp2_with (first | (go_at_call 6; refine (szLine_any _ _ _ _ _ _ _ f _ hm hm' (hT.grow (b1 _ _))).mono ?_; rintro e w1 ⟨⟨r, rfl, hr1, hr'⟩, hB⟩; have hr : Hid _ := hr'; clear hr'; have hBc := Below.join (b1 w _) (Nat.le_refl _) hB; have q0 := cellLater hB n0; have q1 := cellLater hB n1; have q2 := cellLater hB n2; clear n0 n1 n2; have hS := ltCell q0))
    · go_ret
      exact ⟨rfl, hBc⟩
    obtain ⟨hl, hl', hml⟩ := hr.out (by omega)
    clear hr hB
    obtain ⟨st, hst⟩ : ∃ st, placeSt len g gap len' f no o = st := ⟨_, rfl⟩
    have hm10 := rowsOf_small (len := len) (g := g) (gap := gap) (np := len') (f := f) (no := no) (o := o)
    have hSp : ∀ V b b' d, IsInts 0 V.heap.size V b len g → IsTrains 0 V.heap.size V b' len' f → IsInts 0 V.heap.size V d no o → Calls Tryz.prog 7 #[.agg #[.slice b len len, .int .i64 gap, .slice b' len' len'], .slice d no no] V fun e w' => (∃ c nc, e = .returned (.agg #[.int .i64 st.code, .int .i64 (st.at_ : Int), .slice c (rowsOf st len') nc]) ∧ OwnP V.heap.size w' c (rowsOf st len') st.P ∧ ∀ j, j < rowsOf st len' → (st.P j).n ≤ 10) ∧ Below V.heap.size V w' := fun V b b' d J U D => by
      refine (specPlace_any b len len g gap b' len' len' f d no no o V hl hl' hml hno J U D).mono ?_
      rw [hst]
      rintro e w' ⟨⟨v, rfl, hP⟩, hB⟩
      obtain ⟨c, nc, rfl, h⟩ := hP.form
      exact ⟨⟨c, nc, rfl, h, hP.small⟩, hB⟩
    have hIm : ∀ V b b' d, IsInts 0 V.heap.size V b len g → IsTrains 0 V.heap.size V b' len' f → IsInts 0 V.heap.size V d no o → V.cell? ⟨0, 0, none⟩ = some (.iface 184 (.agg #[.pointer (some ⟨10, 129, none⟩)])) → Calls Tryz.prog 10 #[.agg #[.slice b len len, .int .i64 gap, .slice b' len' len'], .slice d no no] V fun e w' => (∃ c nc, e = .returned (.agg #[.int .i64 st.code, .int .i64 (st.at_ : Int), .slice c (rowsOf st len') nc]) ∧ OwnP V.heap.size w' c (rowsOf st len') st.P) ∧ Below V.heap.size V w' := fun V b b' d J U D hgV => by
      refine (implPlace_any b len len g gap b' len' len' f d no no o V hl hl' hml hno J U D hgV).mono ?_
      rw [hst]
      rintro e w' ⟨⟨v, rfl, hP⟩, hB⟩
      obtain ⟨c, nc, rfl, h⟩ := hP.form
      exact ⟨⟨c, nc, rfl, h⟩, hB⟩
    rw [hst] at hm10
    clear hst
    generalize rowsOf st len' = M at hSp hIm hm10
    obtain ⟨cd, at_, P, lst⟩ := st
    dsimp only at hSp hIm
    generalize (at_ : Int) = ai at hSp hIm
    clear hS
    go_wp2_with (first | (go_at_call 8; refine (toLine_any _ _ _ g _ _ _ _ f _ hl hl' hml (hI.grow hBc) (hT.grow hBc)).mono ?_; rintro e w3 ⟨⟨b, b', rfl, J, U⟩, hB3⟩; replace q0 := cellLater hB3 q0; replace q1 := cellLater hB3 q1; replace q2 := cellLater hB3 q2; have hBc3 := Below.join hBc (Nat.le_refl _) hB3; clear hBc) | (go_at_call 9; refine (toIntS_any _ _ _ o _ hno (hO.grow hBc3)).mono ?_; rintro e w4 ⟨⟨d, rfl, D⟩, hB4⟩; replace q0 := cellLater hB4 q0; replace q1 := cellLater hB4 q1; replace q2 := cellLater hB4 q2; replace J := (J.mono (m₁ := 0) (Nat.zero_le _) (Nat.le_refl _)).grow hB4; replace U := (U.mono (m₁ := 0) (Nat.zero_le _) (Nat.le_refl _)).grow hB4; have hBc4 := Below.join hBc3 (Nat.le_refl _) hB4; clear hBc3) | (go_at_call 7; refine (hSp _ _ _ _ J U (D.mono (Nat.zero_le _) (Nat.le_refl _))).mono ?_; rintro e w5 ⟨⟨cW, ncW, rfl, hOW, hn10⟩, hB5⟩; replace q0 := cellLater hB5 q0; replace q1 := cellLater hB5 q1; replace q2 := cellLater hB5 q2; have hBc5 := Below.join hBc4 (Nat.le_refl _) hB5; clear hBc4 J U D; have lq5 := ltCell q0))
    have hN5 := b1 w5 (.cells #[.int .i64 cd, .int .i64 ai, .slice cW M ncW] 31)
    obtain ⟨p0, p1, p2⟩ := new3 w5 (.int .i64 cd) (.int .i64 ai) (.slice cW M ncW) 31
    have rW : IsRows 0 w5.heap.size w5 cW M P := (hOW.rows hn10).mono (Nat.zero_le _) (Nat.le_refl _)
    replace q0 := cellLater hN5 q0
    replace q1 := cellLater hN5 q1
    replace q2 := cellLater hN5 q2
    have hBc6 := Below.join hBc5 (Nat.le_refl _) hN5
    have l5 : w.heap.size < w5.heap.size := lq5
    have s5 : (w5.alloc (.cells #[.int .i64 cd, .int .i64 ai, .slice cW M ncW] 31)).heap.size = w5.heap.size + 1 := by simp
    clear hSp hOW hB3 hB4 hB5 lq5
    refine (toLineM_any _ _ _ g _ _ _ _ f _ hl hl' hml (hI.grow hBc6) (hT.grow hBc6)).mono ?_
    rintro e w6 ⟨⟨b, b', rfl, J, U, md, hlo, hhi, sJ, sU⟩, hB6⟩
    replace q0 := cellLater hB6 q0
    replace q1 := cellLater hB6 q1
    replace q2 := cellLater hB6 q2
    replace p0 := cellLater hB6 p0
    replace p1 := cellLater hB6 p1
    replace p2 := cellLater hB6 p2
    have h56 := Below.join hN5 (Nat.le_refl _) hB6
    have hBc7 := Below.join hBc6 (Nat.le_refl _) hB6
    have l6 := hB6.size
    rw [s5] at l6 hlo sJ
    have hN6 := b1 w6 (.cells #[.slice b len len, .int .i64 gap, .slice b' len' len'] 35)
    obtain ⟨x0, x1, x2⟩ := new3 w6 (.slice b len len) (.int .i64 gap) (.slice b' len' len') 35
    replace J := (J.mono (m₁ := 0) (Nat.zero_le _) (Nat.le_refl _)).grow hN6
    replace U := (U.mono (m₁ := 0) (Nat.zero_le _) (Nat.le_refl _)).grow hN6
    replace sJ := sJ.later hN6
    replace sU := sU.later hN6
    replace q0 := cellLater hN6 q0
    replace q1 := cellLater hN6 q1
    replace q2 := cellLater hN6 q2
    replace p0 := cellLater hN6 p0
    replace p1 := cellLater hN6 p1
    replace p2 := cellLater hN6 p2
    replace h56 := Below.join h56 (Nat.le_refl _) hN6
    replace hBc7 := Below.join hBc7 (Nat.le_refl _) hN6
    have s6 : (w6.alloc (.cells #[.slice b len len, .int .i64 gap, .slice b' len' len'] 35)).heap.size = w6.heap.size + 1 := by simp
    clear hB6 hBc5 hBc6
    have lqa := ltCell q0
    have lpa := ltCell p0
    have lxa := ltCell x0
    go_wp2_with (go_at_call 9; refine (toIntSM_any _ _ _ o _ hno (hO.grow hBc7)).mono ?_; rintro e w7 ⟨⟨d, rfl, D, sD⟩, hB7⟩; replace q0 := cellLater hB7 q0; replace q1 := cellLater hB7 q1; replace q2 := cellLater hB7 q2; replace p0 := cellLater hB7 p0; replace p1 := cellLater hB7 p1; replace p2 := cellLater hB7 p2; replace x0 := cellLater hB7 x0; replace x1 := cellLater hB7 x1; replace x2 := cellLater hB7 x2; replace J := J.grow hB7; replace U := U.grow hB7; replace sJ := sJ.later hB7; replace sU := sU.later hB7; have h57 := Below.join h56 (Nat.le_refl _) hB7; have hBc8 := Below.join hBc7 (Nat.le_refl _) hB7; clear hBc7; have l7 := hB7.size; have hD0 := D.mono (m₁ := 0) (n₁ := w7.heap.size) (Nat.zero_le _) (Nat.le_refl _))
    rw [s6] at l7 sD
    have hg0 := cellLater hBc8 hg
    refine (hIm _ _ _ _ J U hD0 hg0).mono ?_
    rintro e w8 ⟨⟨cG, ncG, rfl, hOG⟩, hB8⟩
    have hN8 := b1 w8 (.cells #[.int .i64 cd, .int .i64 ai, .slice cG M ncG] 31)
    obtain ⟨g0, g1, g2⟩ := new3 w8 (.int .i64 cd) (.int .i64 ai) (.slice cG M ncG) 31
    have h78 := Below.join hB8 (Nat.le_refl _) hN8
    replace q0 := cellLater h78 q0
    replace q1 := cellLater h78 q1
    replace q2 := cellLater h78 q2
    replace p0 := cellLater h78 p0
    replace p1 := cellLater h78 p1
    replace p2 := cellLater h78 p2
    replace x0 := cellLater h78 x0
    replace x1 := cellLater h78 x1
    replace x2 := cellLater h78 x2
    replace J := J.grow h78
    replace U := U.grow h78
    replace hD0 := hD0.grow h78
    replace sJ := sJ.later h78
    replace sU := sU.later h78
    replace sD := sD.later h78
    have hOH := hOG.below.later hN8
    replace h57 := Below.join h57 (Nat.le_refl _) h78
    replace hBc8 := Below.join hBc8 (Nat.le_refl _) h78
    have hn20 : ∀ j, j < M → (P j).n ≤ 1048576 := fun j hj => Nat.le_trans (hn10 j hj) (by omega)
    have l8 := hB8.size
    clear hB7 hB8 hN8 h78 hN5 hN6 h56 hg0 hOG lqa lpa lxa
    go_wp2_with (go_at_call 11; refine (eqPlaced_same _ _ _ _ _ _ _ P _ (by omega) hn20 ((hOH.own.rows hn10).mono (Nat.zero_le _) (Nat.le_refl _)) (rW.grow h57)).mono ?_; rintro e w9 ⟨rfl, hB9⟩)
    replace q0 := cellLater hB9 q0
    replace q1 := cellLater hB9 q1
    replace q2 := cellLater hB9 q2
    replace p0 := cellLater hB9 p0
    replace p1 := cellLater hB9 p1
    replace p2 := cellLater hB9 p2
    replace x0 := cellLater hB9 x0
    replace x1 := cellLater hB9 x1
    replace x2 := cellLater hB9 x2
    replace g0 := cellLater hB9 g0
    replace g1 := cellLater hB9 g1
    replace g2 := cellLater hB9 g2
    have hDr : Below w9.heap.size w9 w9.drew := (Below.refl _ _).drew
    replace J := (J.grow hB9).grow hDr
    replace U := (U.grow hB9).grow hDr
    replace hD0 := hD0.grow hB9
    replace sJ := sJ.later hB9
    replace sU := sU.later hB9
    replace sD := sD.later hB9
    replace hOH := hOH.later hB9
    replace h57 := Below.join h57 (Nat.le_refl _) hB9
    replace hBc8 := Below.join hBc8 (Nat.le_refl _) hB9
    clear hB9
    have hBc2 := Below.join hBc8 (Nat.le_refl _) hDr
    have I6 := hI.grow hBc2
    have T6 := hT.grow hBc2
    go_region_held3 (fun w' => w'.cell? ⟨w.heap.size, 0, none⟩ = some (.slice a len cap) ∧ w'.cell? ⟨w.heap.size, 1, none⟩ = some (.int .i64 gap) ∧ w'.cell? ⟨w.heap.size, 2, none⟩ = some (.slice a' len' cap') ∧ w'.cell? ⟨w6.heap.size, 0, none⟩ = some (.slice b len len) ∧ w'.cell? ⟨w6.heap.size, 1, none⟩ = some (.int .i64 gap) ∧ w'.cell? ⟨w6.heap.size, 2, none⟩ = some (.slice b' len' len')) (first | (go_split_ands; refine ⟨?_, ?_, ?_, ?_, ?_, ?_⟩ <;> exact cellLater hB7 (by assumption)) | (go_split_ands; refine ⟨?_, ?_, ?_, ?_, ?_, ?_⟩ <;> exact cellLater hB8 (by assumption)) | go_keep) ((first | (go_at_call 8; refine (toLine_any _ _ _ g _ _ _ _ f _ hl hl' hml I6 T6).mono ?_; rintro e w10 ⟨⟨k, k', rfl, J7, U7⟩, hB7⟩; replace J := J.grow hB7; replace U := U.grow hB7) | (go_at_call 12; refine (eqLine_same _ _ _ g _ _ _ _ f _ _ _ _ _ hl hl' hml J U (J7.mono (Nat.zero_le _) (Nat.le_refl _)) (U7.mono (Nat.zero_le _) (Nat.le_refl _))).mono ?_; rintro e w11 ⟨rfl, hB8⟩)))
    have hBe : Below w9.heap.size w9 w11 := Below.join (Below.join (Below.refl _ _).drew (Nat.le_refl _) hB7) (Nat.le_refl _) hB8
    replace q0 := cellLater hBe q0
    replace q1 := cellLater hBe q1
    replace q2 := cellLater hBe q2
    replace p0 := cellLater hBe p0
    replace p1 := cellLater hBe p1
    replace p2 := cellLater hBe p2
    replace x0 := cellLater hBe x0
    replace x1 := cellLater hBe x1
    replace x2 := cellLater hBe x2
    replace g0 := cellLater hBe g0
    replace g1 := cellLater hBe g1
    replace g2 := cellLater hBe g2
    replace hD0 := hD0.grow hBe
    replace sJ := sJ.later hBe
    replace sU := sU.later hBe
    replace sD := sD.later hBe
    replace hOH := hOH.later hBe
    replace h57 := Below.join h57 (Nat.le_refl _) hBe
    replace hBc8 := Below.join hBc8 (Nat.le_refl _) hBe
    clear hBe hB7 hB8 J U J7 U7 I6 T6 hBc2 hDr
    have O1 := hO.grow hBc8
    go_wp2_with (first | (go_at_call 9; refine (toIntS_any _ _ _ o _ hno O1).mono ?_; rintro e w12 ⟨⟨k, rfl, D7⟩, hB7⟩; replace q0 := cellLater hB7 q0; replace q1 := cellLater hB7 q1; replace q2 := cellLater hB7 q2; replace p0 := cellLater hB7 p0; replace p1 := cellLater hB7 p1; replace p2 := cellLater hB7 p2; replace x0 := cellLater hB7 x0; replace x1 := cellLater hB7 x1; replace x2 := cellLater hB7 x2; replace g0 := cellLater hB7 g0; replace g1 := cellLater hB7 g1; replace g2 := cellLater hB7 g2; replace hD0 := hD0.grow hB7) | (go_at_call 13; refine (eqIntS_same _ _ _ _ _ o _ hno hD0 (D7.mono (Nat.zero_le _) (Nat.le_refl _))).mono ?_; rintro e w13 ⟨rfl, hB8⟩; replace q0 := cellLater hB8 q0; replace q1 := cellLater hB8 q1; replace q2 := cellLater hB8 q2; replace p0 := cellLater hB8 p0; replace p1 := cellLater hB8 p1; replace p2 := cellLater hB8 p2; replace x0 := cellLater hB8 x0; replace x1 := cellLater hB8 x1; replace x2 := cellLater hB8 x2; replace g0 := cellLater hB8 g0; replace g1 := cellLater hB8 g1; replace g2 := cellLater hB8 g2; have hBe := Below.join hB7 (Nat.le_refl _) hB8; replace sJ := sJ.later hBe; replace sU := sU.later hBe; replace sD := sD.later hBe; replace hOH := hOH.later hBe; replace h57 := Below.join h57 (Nat.le_refl _) hBe; replace hBc8 := Below.join hBc8 (Nat.le_refl _) hBe; have lg : w8.heap.size < w13.heap.size := ltCell g0; clear hBe hB7 hB8 D7 hD0) | (go_at_call 14; refine (markLine_any _ _ _ _ _ _ _ (fun j => (f j).nl) _ (w5.heap.size + 1) md w6.heap.size hl hl' hml hlo hhi (by omega) sJ sU).mono ?_; rintro e w14 ⟨⟨r14, rfl, hr3, hr4⟩, hM14⟩) | (go_at_call 15; refine (markIntS_any _ _ _ _ _ (w6.heap.size + 1) w7.heap.size hno (by omega) (by omega) (sD.mid hM14)).mono ?_; rintro e w15 ⟨rfl, _, hM15⟩; have hMM := (hM14.mono (lo' := w5.heap.size + 1) (hi' := w7.heap.size) (Nat.le_refl _) (by omega)).trans (hM15.mono (lo' := w5.heap.size + 1) (by omega) (Nat.le_refl _)); have h5' := h57.trans (hMM.below.mono (Nat.le_succ _)); replace g0 := hMM.cellAbove l8 g0; replace g1 := hMM.cellAbove l8 g1; replace g2 := hMM.cellAbove l8 g2; replace q0 := hMM.cellBelow (by omega) q0; replace q1 := hMM.cellBelow (by omega) q1; replace q2 := hMM.cellBelow (by omega) q2; replace p0 := hMM.cellBelow (Nat.lt_succ_self _) p0; replace p1 := hMM.cellBelow (Nat.lt_succ_self _) p1; replace p2 := hMM.cellBelow (Nat.lt_succ_self _) p2; replace hOH := hOH.same (fun k hk hk2 => hMM.above k hk hk2); have hr7 : ¬ (r14 + (no : Int) < 0) := (by omega)) | (go_at_call 11; refine (eqPlaced_same _ _ _ _ _ _ _ P _ (by omega) hn20 ((hOH.own.rows hn10).mono (Nat.zero_le _) (Nat.le_refl _)) (rW.grow h5')).mono ?_; rintro e w16 ⟨rfl, hB16⟩; replace q0 := cellLater hB16 q0; replace q1 := cellLater hB16 q1; replace q2 := cellLater hB16 q2; replace p0 := cellLater hB16 p0; replace p1 := cellLater hB16 p1; replace p2 := cellLater hB16 p2; replace g0 := cellLater hB16 g0; replace g1 := cellLater hB16 g1; replace g2 := cellLater hB16 g2; replace h5' := Below.join h5' (Nat.le_refl _) hB16; replace hOH := hOH.later hB16) | (go_at_call 16; refine (markPlacedO_any w8.heap.size w7.heap.size _ _ _ _ _ P _ _ (by omega) hn10 (by omega) (by omega) (by have h : w8.heap.size < w16.heap.size := ltCell g0; omega) l8 hOH).mono ?_; rintro e w17 ⟨rfl, hH17, hM17⟩; replace g0 := hM17.cellAbove (Nat.le_refl _) g0; replace g1 := hM17.cellAbove (Nat.le_refl _) g1; replace g2 := hM17.cellAbove (Nat.le_refl _) g2; replace q0 := hM17.cellBelow (by omega) q0; replace q1 := hM17.cellBelow (by omega) q1; replace q2 := hM17.cellBelow (by omega) q2; replace p0 := hM17.cellBelow (by omega) p0; replace p1 := hM17.cellBelow (by omega) p1; replace p2 := hM17.cellBelow (by omega) p2; have h5'' := h5'.trans (hM17.below.mono (by omega))) | (go_at_call 17; refine (heldPlacedO_any _ _ _ _ _ P _ _ (by omega) hn10 (by omega) (by omega) hH17).mono ?_; rintro e w18 ⟨rfl, hB18⟩; replace q0 := cellLater hB18 q0; replace q1 := cellLater hB18 q1; replace q2 := cellLater hB18 q2; replace p0 := cellLater hB18 p0; replace p1 := cellLater hB18 p1; replace p2 := cellLater hB18 p2; replace g0 := cellLater hB18 g0; replace g1 := cellLater hB18 g1; replace g2 := cellLater hB18 g2))
    have hBm : Below w5.heap.size w13 w18 := (((hMM.below.mono (Nat.le_succ _)).trans (hB16.mono (by have := hMM.below.size; omega))).trans (hM17.below.mono (by omega))).trans (hB18.mono (by have h1 := hMM.below.size; have h2 := hB16.size; have h3 := hM17.below.size; omega))
    have hBc := hBc8.trans (hBm.mono (by omega))
    have h518 := h57.trans hBm
    have hH18 := hH17.grow hB18
    clear sJ sU sD hM14 hM15 hMM hM17 hB16 hB18 hBm h57 h5' h5'' hBc8 hOH hH17 x0 x1 x2 O1
    go_wp2_with (first | (go_at_call 8; refine (toLine_any _ _ _ g _ _ _ _ f _ hl hl' hml (hI.grow hBc) (hT.grow hBc)).mono ?_; rintro e w19 ⟨⟨b2, b3, rfl, J, U⟩, hB19⟩; replace p0 := cellLater hB19 p0; replace p1 := cellLater hB19 p1; replace p2 := cellLater hB19 p2; replace g0 := cellLater hB19 g0; replace g1 := cellLater hB19 g1; replace g2 := cellLater hB19 g2; have hBd := Below.join hBc (Nat.le_refl _) hB19) | (go_at_call 9; refine (toIntS_any _ _ _ o _ hno (hO.grow hBd)).mono ?_; rintro e w20 ⟨⟨d2, rfl, D⟩, hB20⟩; replace p0 := cellLater hB20 p0; replace p1 := cellLater hB20 p1; replace p2 := cellLater hB20 p2; replace g0 := cellLater hB20 g0; replace g1 := cellLater hB20 g1; replace g2 := cellLater hB20 g2; replace J := (J.mono (m₁ := 0) (Nat.zero_le _) (Nat.le_refl _)).grow hB20; replace U := (U.mono (m₁ := 0) (Nat.zero_le _) (Nat.le_refl _)).grow hB20; have hBf := Below.join hBd (Nat.le_refl _) hB20) | (go_at_call 10; refine (hIm _ _ _ _ J U (D.mono (Nat.zero_le _) (Nat.le_refl _)) (cellLater hBf hg)).mono ?_; rintro e w21 ⟨⟨cH, ncH, rfl, hOI⟩, hB21⟩; have hN21 := b1 w21 (.cells #[.int .i64 cd, .int .i64 ai, .slice cH M ncH] 31); obtain ⟨y0, y1, y2⟩ := new3 w21 (.int .i64 cd) (.int .i64 ai) (.slice cH M ncH) 31; have hBg := Below.join hB21 (Nat.le_refl _) hN21; replace p0 := cellLater hBg p0; replace p1 := cellLater hBg p1; replace p2 := cellLater hBg p2; replace g0 := cellLater hBg g0; replace g1 := cellLater hBg g1; replace g2 := cellLater hBg g2; have hBk := Below.join (Below.join hB19 (Nat.le_refl _) hB20) (Nat.le_refl _) hBg; have hH21 := hH18.grow hBk; have rH := (hOI.later hN21).rows hn10; have h521 := Below.join h518 (Nat.le_refl _) hBk; have hBn := Below.join hBf (Nat.le_refl _) hBg) | (go_at_call 11; refine (eqPlaced_same _ _ _ _ _ _ _ P _ (by omega) hn20 (rH.mono (Nat.zero_le _) (Nat.le_refl _)) (rW.grow h521)).mono ?_; rintro e w22 ⟨rfl, hB22⟩; replace g0 := cellLater hB22 g0; replace g1 := cellLater hB22 g1; replace g2 := cellLater hB22 g2; replace hH21 := hH21.grow hB22) | (go_at_call 17; refine (heldPlacedO_any _ _ _ _ _ P _ _ (by omega) hn10 (by omega) (by omega) hH21).mono ?_; rintro e w23 ⟨rfl, hB23⟩))
    go_ret
    exact ⟨rfl, Below.join (Below.join hBn (Nat.le_refl _) hB22) (Nat.le_refl _) hB23⟩
  · have hno' : (1048576 : Int) < (no : Int) := by omega
    go_enter Tryz.func3, Tryz.ntmps3
    go_wp2
    go_ret
    exact ⟨rfl, b1 _ _⟩
end Go.Proofs.YthnlkpifafklkaaGreatDoor

namespace Go.Proofs.YthnlkpifafklkaaGreatDoor
open Go.ChangeShapes Go.WideShapes Go.ChangeAt Go.RowKit

set_option maxRecDepth 100000 in
theorem lawPlace_contract (H : Type) (enc : TypeId × Value → H) (W : World) (base : Nat) (args : Array Value) (ds gs : List (DataW H)) (before : List MemPlace)
    (hval : ∀ (j : Nat) t v, Tryz.f3.params[j]? = some t → args[j]? = some v → Value.okWide Tryz.prog W .any base t v)
    (hW : DataW.Whole enc Tryz.prog Tryz.f3.params.toList Rows.fnExactPlaceSpec.vars false W args.toList ds gs before) (hL : laidMetH Tryz.prog [("errors.errorType", Rows.laid_errors_errorType)] W) :
    Calls Tryz.prog 3 args W fun e W' => ∃ v, e = .returned v ∧ Rows.fnExactPlaceSpec.post enc Tryz.prog Tryz.f3 false true false false W args v W' := by
  have hW' := hW
  obtain ⟨p, q, hA0, hV, rfl, hfz, hnd⟩ := hW
  have hA : DataW.TrodAll enc Tryz.prog W 0 (fun _ => true) true Tryz.f3.params.toList args.toList ds p := hA0
  rw [Tryz.params3] at hA hval
  obtain ⟨v0, vs0, d0, ds0, p0, q0, hargs, rfl, rfl, h0, r0⟩ := trodAll_cons hA
  obtain ⟨v1, vs1, d1, ds1, p1, q1, rfl, rfl, rfl, h1, r1⟩ := trodAll_cons r0
  obtain ⟨rfl, rfl, rfl⟩ := trodAll_nil r1
  obtain rfl : args = #[v0, v1] := Array.ext' hargs
  obtain ⟨rfl, rfl⟩ := trodVars_none hV
  have hg := handle_of_laid hL
  have hk := h0
  have hk1 := h1
  obtain ⟨a, len, cap, g, gap, a', len', cap', f, rfl, hm, hm', hI, hT⟩ := readLine (hval 0 25 v0 rfl rfl) h0
  obtain ⟨oa, no, oc, o, rfl, hmo, hO⟩ : ∃ (a : Option Addr) (len cap : Nat) (f : Nat → Int), v1 = .slice a len cap ∧ len ≤ maxLen ∧ IsInts 0 W.heap.size W a len f := by
    obtain ⟨oa, no, oc, rfl⟩ := okWide_slice Tryz.underlying22 (hval 1 22 v1 rfl rfl)
    obtain ⟨fuel, hf⟩ := h1
    obtain ⟨a2, l2, c2, o, e, hmo, hO⟩ := readInts (v := .slice oa no oc) (by simpa [Value.cells] using hf)
    exact ⟨a2, l2, c2, o, e, hmo, hO⟩
  simp only [List.append_nil] at hW'
  refine (lawPlace_any a len cap g gap a' len' cap' f oa no oc o W hm hm' hmo hI hT hO hg).mono fun e W' ⟨he, hb⟩ => ?_
  subst he
  have hlt : ∀ x ∈ p0, x.block < W.heap.size := fun x hx => hW'.lt x (by simp [hx])
  have hlt1 : ∀ x ∈ p1, x.block < W.heap.size := fun x hx => hW'.lt x (by simp [hx])
  have e1 : ∀ d d' : DataW H, Rows.fnExactPlaceSpec.fn H ([d, d'] ++ []) = { results := [.lit (.bool true)], args := [d, d'] } := fun _ _ => rfl
  refine ⟨_, rfl, _, _, _, [], p0 ++ (p1 ++ []), [], hW', ?_, ?_, ?_, hb.frame _, fun h => by cases h⟩
  · rw [e1]; exact trodAll_cons_mk (shut_bool Tryz.underlying4 true) trodAll_mk0
  · rw [e1]; exact trodAll_cons_mk (Below.trod Tryz.laidOut (by kernel_rfl) (of_decide_eq_true (by kernel_rfl)) hk hb hlt) (trodAll_cons_mk (Below.trod Tryz.laidOut (by kernel_rfl) (of_decide_eq_true (by kernel_rfl)) hk1 hb hlt1) trodAll_mk0)
  · rw [e1]; rfl

theorem laidWorld_readsPlace (os : Os) {H : Type} (enc : TypeId × Value → H) : ∃ places, DataW.whole enc Tryz.prog ((laidWorld os).forCall (fun _ _ => 0) ⟨#[], #[.agg #[.slice none 0 0, .int .i64 0, .slice none 0 0], .slice none 0 0], []⟩).memory Tryz.f3.params.toList Rows.fnExactPlaceSpec.vars false #[Value.agg #[.slice none 0 0, .int .i64 0, .slice none 0 0], .slice none 0 0].toList 8 = some ([.agg [.nil, .lit (.int .i64 0), .nil], .nil], [], places) :=
  ⟨[], by kernel_rfl⟩

set_option maxRecDepth 100000 in
theorem lawPlace_lifted (os : Os) (started : os.Started) (H : Type) (enc : TypeId × Value → H) (F : Stop.Interp) :
    ReturnsInHanded {} Tryz.checked os 3 .any ((OpenSpec.ofChange Rows.fnExactPlaceSpec).preRow enc Tryz.prog Tryz.f3 Rows.fnExactPlaceRow.domain false Rows.fnExactPlaceRow.laid) (((OpenSpec.ofChange Rows.fnExactPlaceSpec).at F).post enc Tryz.prog Tryz.f3 false true false false) := by
  obtain ⟨places, hx⟩ := laidWorld_readsPlace os enc
  refine returnsInHanded_of_row (C := Tryz.checked) (s := OpenSpec.ofChange Rows.fnExactPlaceSpec) Tryz.own started (by kernel_rfl) Tryz.func3
    (witness_row_at (enc := enc) (C := Tryz.checked) false (laidWorld os) #[.agg #[.slice none 0 0, .int .i64 0, .slice none 0 0], .slice none 0 0] rfl (by kernel_rfl) (by kernel_rfl) (by kernel_rfl)
      (OpenSpec.preRow_of_cond 8 hx (by kernel_rfl) (fun k hk => by cases hk) (by kernel_rfl) (laidWorld_met os _))) ?_
  intro W base args ds gs before hval hW _ _ _ hL _ _
  exact lawPlace_contract H enc W base args ds gs before hval hW hL

theorem lawPlace_said : Rows.FnExactPlaceSaid :=
  OpenClaim.holds_of_cond 3 Tryz.f3 rfl rfl rfl rfl rfl rfl rfl ⟨rfl, rfl, rfl, rfl, rfl⟩ rfl rfl rfl rfl rfl (by kernel_rfl) Tryz.func3 (by kernel_rfl)
    (of_decide_eq_true (by kernel_rfl)) (by unfold Func.isWrapper; rw [if_neg (of_decide_eq_false (by kernel_rfl))]; exact ⟨rfl, rfl⟩)
    (fun os started H enc _ F => by rw [OpenClaim.pre_eq_preRow]; exact lawPlace_lifted os started H enc F)

theorem lawPlace_plain (f : FuncId) (fn : Func) (hf : Tryz.pinned.checked.prog.funcNamed "loop.example/stringline/laws.FnExactPlace" = some f) (hfn : Tryz.pinned.checked.prog.funcs[f]? = some fn) :
    true = Tryz.pinned.checked.prog.looks [] ∧ ∀ (j : Nat) t, fn.params[j]? = some t → Tryz.pinned.checked.prog.wantsStandIn t = false := by
  obtain rfl : f = 3 := Option.some.inj ((show Tryz.prog.funcNamed "loop.example/stringline/laws.FnExactPlace" = some 3 by kernel_rfl).symm.trans hf) |>.symm
  obtain rfl : fn = Tryz.f3 := (Option.some.inj (Tryz.func3.symm.trans hfn)).symm
  refine ⟨by kernel_rfl, fun j t ht => ?_⟩
  rw [Tryz.params3] at ht
  have hmem : t = 25 ∨ t = 22 := by simpa using Array.mem_of_getElem? ht
  rcases hmem with rfl | rfl
  · exact (show Tryz.prog.wantsStandIn 25 = false by kernel_rfl)
  · exact (show Tryz.prog.wantsStandIn 22 = false by kernel_rfl)

theorem lawPlace_card : Rows.FnExactPlaceCardSaid :=
  Claim7.holds_tied_plain_at .later [] _ _ _ _ lawPlace_said (fun _ h => by cases h) (by kernel_rfl) (fun _ h => by cases h) fnExactPlace_row_tie rfl ⟨rfl, rfl⟩ (by kernel_rfl) rfl lawPlace_plain (by kernel_rfl)
end Go.Proofs.YthnlkpifafklkaaGreatDoor
