/-
  The model's Place: what it answers.
-/
import Derived.Test.YthnlkpifafklkaaGreatDoorGPlan
import Derived.Test.YthnlkpifafklkaaGreatDoorSpecE
import Derived.Test.YthnlkpifafklkaaGreatDoorSpecW
namespace Go.Proofs.YthnlkpifafklkaaGreatDoor
open Go.RowKit

set_option maxRecDepth 20000 in
set_option maxHeartbeats 4000000 in
theorem next_two (b : Nat) (a : Option Addr) (len cap : Nat) (gap : Int) (a' : Option Addr) (np cap' : Nat) (f : Nat → TrainD) (c : Option Addr) (nc : Nat) (P : Nat → RowD) (last : Int) (i : Nat) (w : World) (hR : RightL len np f) (hi : i < np) (hk : (P i).n = (f i).nl)
    (hL : L2 w b a len cap gap a' np cap' c nc last) (hT : IsTrains 0 w.heap.size w a' np f) (hP : IsRows 0 w.heap.size w c np P) :
    Calls Tryz.prog 33 #[.pointer (some ⟨b, 0, none⟩), .int .i64 i] w fun e w' => e = .returned (.int .i64 2) ∧ Below w.heap.size w w' := by
  have htr := hR.tr
  have hnl := (hR.train i hi).nl
  have hi' : (i : Int) < (np : Int) := by omega
  have hi0 : (0 : Int) ≤ (i : Int) := by omega
  have hkd : (((P i).n : Int) == ((f i).nl : Int)) = true := by simp; omega
  have x2 := hL.c2
  have x3 := hL.c3
  have lb := ltCell x3
  dsimp only at lb
  obtain ⟨bt, ot, la, lc, rfl, _, hbt, t0, t1, t2, t3, t4, hlg, _⟩ := hT i hi
  obtain ⟨bp, op, lp, lpc, rfl, _, hbp, p0, hin, _⟩ := hP i hi
  go_enter Tryz.func33, Tryz.ntmps33
  go_wp2
  go_ret
  exact ⟨rfl, b1 _ _⟩

set_option maxRecDepth 20000 in
set_option maxHeartbeats 4000000 in
theorem specPlace_line (a : Option Addr) (len cap : Nat) (g : Nat → Int) (gap : Int) (a' : Option Addr) (np cap' : Nat) (f : Nat → TrainD) (oa : Option Addr) (no oc : Nat) (o : Nat → Int) (w : World) (hl : len ≤ 1048576) (hl' : np ≤ 1048576) (hml : ∀ j, j < np → (f j).nl ≤ 1048576)
    (hI : IsInts 0 w.heap.size w a len g) (hT : IsTrains 0 w.heap.size w a' np f) (hno : no ≤ 1048576) (hbad : ¬ ((faultOf len g gap np f).1 = 0 ∧ no ≤ 10)) :
    Calls Tryz.prog 7 #[.agg #[.slice a len cap, .int .i64 gap, .slice a' np cap'], .slice oa no oc] w fun e w' => (∃ v, e = .returned v ∧ IsPlaced w.heap.size w' (placeSt len g gap np f no o) np v) ∧ Below w.heap.size w w' := by
  have hst : placeSt len g gap np f no o = ⟨1, 0, fun _ => ⟨0, fun _ => 0⟩, 0⟩ := by unfold placeSt; rw [if_neg hbad]
  rw [hst]
  have hN := b2 w (.cells #[.slice a len cap, .int .i64 gap, .slice a' np cap'] 35) (.cells #[.int .i64 0, .int .i64 0, .slice none 0 0] 31)
  obtain ⟨⟨y0, y1, y2⟩, hRm⟩ := box31 w a len cap gap a' np cap' 35 31
  have hend : ∀ w2, Below ((w.alloc (.cells #[.slice a len cap, .int .i64 gap, .slice a' np cap'] 35)).alloc (.cells #[.int .i64 0, .int .i64 0, .slice none 0 0] 31)).heap.size ((w.alloc (.cells #[.slice a len cap, .int .i64 gap, .slice a' np cap'] 35)).alloc (.cells #[.int .i64 0, .int .i64 0, .slice none 0 0] 31)) w2 → Room (w.heap.size + 1) 3 w2 := fun w2 h => hRm.below h (by simp)
  by_cases hF : (faultOf len g gap np f).1 = 0
  · have hn : ¬ no ≤ 10 := fun h => hbad ⟨hF, h⟩
    have hn' : (10 : Int) < (no : Int) := by omega
    have hok := l1ok_yes a len cap g gap a' np cap' f _ hl hl' hml (hI.grow hN) (hT.grow hN) (faultOf_snd hF)
    go_enter Tryz.func7, Tryz.ntmps7
    go_wp2_with (go_at_call 30; refine hok.mono ?_; rintro _ w2 ⟨rfl, hB2⟩; obtain ⟨v0, m0, z0⟩ := hend _ hB2 0 (by omega); obtain ⟨v1, m1, z1⟩ := hend _ hB2 1 (by omega); obtain ⟨v2, m2, z2⟩ := hend _ hB2 2 (by omega))
    refine bodyPost_ret (v := .agg #[.int .i64 1, .int .i64 0, .slice none 0 0]) (by simp [results, Tryz.results7, go_sem, m0, m1, m2]) rfl ⟨⟨_, rfl, .slice none 0 0, rfl, fun _ => rfl, fun h => by simp at h⟩, ?_⟩
    exact below_set3 (Below.join hN (Nat.le_refl _) hB2) (by omega) _ _ _
  · have hok := l1ok_no a len cap g gap a' np cap' f _ hl hl' hml (hI.grow hN) (hT.grow hN) hF
    go_enter Tryz.func7, Tryz.ntmps7
    go_wp2_with (go_at_call 30; refine hok.mono ?_; rintro _ w2 ⟨rfl, hB2⟩; obtain ⟨v0, m0, z0⟩ := hend _ hB2 0 (by omega); obtain ⟨v1, m1, z1⟩ := hend _ hB2 1 (by omega); obtain ⟨v2, m2, z2⟩ := hend _ hB2 2 (by omega))
    refine bodyPost_ret (v := .agg #[.int .i64 1, .int .i64 0, .slice none 0 0]) (by simp [results, Tryz.results7, go_sem, m0, m1, m2]) rfl ⟨⟨_, rfl, .slice none 0 0, rfl, fun _ => rfl, fun h => by simp at h⟩, ?_⟩
    exact below_set3 (Below.join hN (Nat.le_refl _) hB2) (by omega) _ _ _

set_option maxRecDepth 20000 in
set_option maxHeartbeats 8000000 in
theorem specPlace_main (a : Option Addr) (len cap : Nat) (g : Nat → Int) (gap : Int) (a' : Option Addr) (np cap' : Nat) (f : Nat → TrainD) (oa : Option Addr) (no oc : Nat) (o : Nat → Int) (w : World) (hl : len ≤ 1048576) (hl' : np ≤ 1048576) (hml : ∀ j, j < np → (f j).nl ≤ 1048576)
    (hI : IsInts 0 w.heap.size w a len g) (hT : IsTrains 0 w.heap.size w a' np f) (hO : IsInts 0 w.heap.size w oa no o) (hF : faultOf len g gap np f = (0, 0)) (hno : no ≤ 10) :
    Calls Tryz.prog 7 #[.agg #[.slice a len cap, .int .i64 gap, .slice a' np cap'], .slice oa no oc] w fun e w' => (∃ v, e = .returned v ∧ IsPlaced w.heap.size w' (placeSt len g gap np f no o) np v) ∧ Below w.heap.size w w' := by
  have hR := rightL_of hF
  have hG := rightG_of hF
  have htr := hR.tr
  have hst : placeSt len g gap np f no o = if (runP np g f gap o no).code ≠ 0 then runP np g f gap o no else if no = legSum f np then runP np g f gap o no else ⟨4, no, (runP np g f gap o no).P, (runP np g f gap o no).last⟩ := by unfold placeSt; rw [if_pos ⟨by rw [hF], hno⟩]
  have hst' : Hid _ := hst
  generalize placeSt len g gap np f no o = ST at hst'
  clear hst
  have hN := b2 w (.cells #[.slice a len cap, .int .i64 gap, .slice a' np cap'] 35) (.cells #[.int .i64 0, .int .i64 0, .slice none 0 0] 31)
  obtain ⟨⟨y0, y1, y2⟩, hRm⟩ := box31 w a len cap gap a' np cap' 35 31
  have hok := l1ok_yes a len cap g gap a' np cap' f _ hl hl' hml (hI.grow hN) (hT.grow hN) hF
  have hno' : ¬ ((10 : Int) < (no : Int)) := by omega
  have lR : w.heap.size + 1 < ((w.alloc (.cells #[.slice a len cap, .int .i64 gap, .slice a' np cap'] 35)).alloc (.cells #[.int .i64 0, .int .i64 0, .slice none 0 0] 31)).heap.size := by simp
  go_enter Tryz.func7, Tryz.ntmps7
  go_wp2_with (first | (go_at_call 30; refine hok.mono ?_; rintro _ w2 ⟨rfl, hB2⟩; have hBw := Below.join hN (Nat.le_refl _) hB2; replace y0 := cellLater hB2 y0; replace y1 := cellLater hB2 y1; replace y2 := cellLater hB2 y2; replace hRm := hRm.below hB2 lR; have lR2 := Nat.lt_of_lt_of_le lR hB2.size) | (go_at_call 31; refine (l2new_any a len cap gap a' np cap' w2 htr).mono ?_; rintro _ W ⟨⟨gR, c, nc, rfl, hLP⟩, hB3⟩; replace hBw := Below.join hBw (Nat.le_refl _) hB3; replace y0 := cellLater hB3 y0; replace y1 := cellLater hB3 y1; replace y2 := cellLater hB3 y2; replace hRm := hRm.below hB3 lR2))
  have hWs : w2.heap.size ≤ W.heap.size := hB3.size
  clear hok hB2 hN hB3 hno'
  go_loopw [22] (fun kk wr => ∃ (k : Nat) (v : Nat → Value), k ≤ no ∧ kk = .int .i64 k ∧ (runP np g f gap o k).code = 0 ∧ RunOk len np g f gap (runP np g f gap o k) k ∧ LP w2.heap.size wr (w2.heap.size + 1) gR a len cap gap a' np cap' c nc v (runP np g f gap o k).P (runP np g f gap o k).last ∧ Below w2.heap.size W wr) (fun kk _ => no - (intOf kk).toNat)
  case atStart => exact ⟨0, _, Nat.zero_le _, rfl, rfl, runP_zero np g f gap o len, hLP, Below.refl _ _⟩
  case round =>
    obtain ⟨k, v, hk, rfl, hcode, hrun, hL, hBr⟩ := hrel
    have hlw : w.heap.size ≤ w2.heap.size := by omega
    have hBwr : Below w.heap.size w wr := hBw.trans (hBr.mono hlw)
    have z0 := (hBr.cell (p := ⟨w.heap.size, 0, none⟩) (by dsimp only; omega)).trans y0
    have z1 := (hBr.cell (p := ⟨w.heap.size, 1, none⟩) (by dsimp only; omega)).trans y1
    have z2 := (hBr.cell (p := ⟨w.heap.size, 2, none⟩) (by dsimp only; omega)).trans y2
    have hIw := (hI.below hBwr (Nat.le_refl _)).mono (Nat.le_refl 0) hBwr.size
    have hTw := (hT.below hBwr (Nat.le_refl _)).mono (Nat.le_refl 0) hBwr.size
    have hRw := hRm.below hBr (by omega)
    by_cases hlt : k < no
    · have hk' : (k : Int) < (no : Int) := by omega
      have hk0 : (0 : Int) ≤ (k : Int) := by omega
      obtain ⟨bo, oo, rfl, _, _, qo⟩ := hO k hlt
      replace qo := (hBwr.cell (p := ⟨bo, oo + k, none⟩) (by dsimp only; omega)).trans qo
      have hrun1 : runP np g f gap o (k + 1) = stepP np g f gap (o k) k (runP np g f gap o k) := rfl
      have hstick : ∀ st : StP, runP np g f gap o (k + 1) = st → st.code ≠ 0 → runP np g f gap o no = st := fun st h1 h2 => by
        have := runP_stick (np := np) (g := g) (f := f) (gap := gap) (o := o) (k := k + 1) (by rw [h1]; exact h2) (no - (k + 1))
        rw [show k + 1 + (no - (k + 1)) = no by omega, h1] at this
        exact this
      have hrun1' : Hid _ := hrun1
      have hstick' : Hid _ := hstick
      clear hrun1 hstick
      generalize hst0 : runP np g f gap o k = st at hcode hrun hL
      rw [hst0] at hrun1'
      clear hst0
      generalize o k = ok at qo hrun1'
      obtain ⟨r0, rm0, rz0⟩ := hRw 0 (by omega)
      obtain ⟨r1, rm1, rz1⟩ := hRw 1 (by omega)
      obtain ⟨r2, rm2, rz2⟩ := hRw 2 (by omega)
      have hwn : IntKind.i64.wrap ((np : Int) - 1) = (np : Int) - 1 := by rw [IntKind.wrap_i64]; omega
      have hl1 := l1in_any ok 0 ((np : Int) - 1) wr
      cases hin : inB ok 0 ((np : Int) - 1)
      · have hstv : Hid (ST = ⟨2, k, st.P, st.last⟩) := by
          unfold Hid
          have h1 : runP np g f gap o (k + 1) = ⟨2, k, st.P, st.last⟩ := by rw [hrun1'.out]; unfold stepP; rw [if_neg (by simp [hcode]), if_neg (by simp [hin])]
          have h2 := hstick'.out _ h1 (by simp)
          rw [hst'.out, h2, if_pos (by simp)]
        rw [hin] at hl1
        clear hin hrun1' hstick'
        go_wp2_with (go_at_call 32; refine hl1.mono ?_; rintro _ _ ⟨rfl, rfl⟩)
        refine bodyPost_ret (v := .agg #[.int .i64 2, .int .i64 k, .slice none 0 0]) (by simp [results, Tryz.results7, go_sem, rm0, rm1, rm2]) rfl ⟨⟨_, rfl, .slice none 0 0, by rw [hstv.out], fun _ => rfl, fun h => by rw [hstv.out] at h; simp at h⟩, below_set3 hBwr (by omega) _ _ _⟩
      · rw [hin] at hl1
        obtain ⟨h00, h01⟩ := of_decide_eq_true hin
        obtain ⟨i, hi⟩ : ∃ i : Nat, ok = (i : Int) := ⟨ok.toNat, by omega⟩
        subst hi
        have hip : i < np := by omega
        have hpart := hrun.part
        have hn10 : ∀ j, j < np → (st.P j).n ≤ 10 := fun j hj => Nat.le_trans (hpart.le j hj) (hR.train j hj).nl
        clear h00 h01
        have hbad : ∀ cc : Int, cc ≠ 0 → nextOf np g f st.P gap st.last i = (cc, 0) → ST = ⟨cc, k, st.P, st.last⟩ := fun cc hc hn => by
          have h1 : runP np g f gap o (k + 1) = ⟨cc, k, st.P, st.last⟩ := by rw [hrun1'.out]; unfold stepP; rw [if_neg (by simp [hcode]), if_pos hin, Int.toNat_natCast, hn, if_neg (by simpa using hc)]
          have h2 := hstick'.out _ h1 hc
          rw [hst'.out, h2, if_pos hc]
        have hbad' : Hid _ := hbad
        have hin' : Hid _ := hin
        clear hbad hin hstick'
        by_cases hnn : (st.P i).n = (f i).nl
        · have hnx := next_two (w2.heap.size + 1) a len cap gap a' np cap' f c nc st.P st.last i wr hR hip hnn hL.l2 hTw (hL.rows hn10)
          have hstv : Hid (ST = ⟨2, k, st.P, st.last⟩) := hbad'.out 2 (by decide) (nextOf_two hnn)
          clear hbad' hrun1'
          go_wp2_with (first | (go_at_call 32; refine hl1.mono ?_; rintro _ _ ⟨rfl, rfl⟩) | (go_at_call 33; refine hnx.mono ?_; rintro _ w5 ⟨rfl, hB5⟩; replace rz0 := (hB5.frozen (ltCell rm0)).trans rz0; replace rz1 := (hB5.frozen (ltCell rm1)).trans rz1; replace rz2 := (hB5.frozen (ltCell rm2)).trans rz2; replace rm0 := cellLater hB5 rm0; replace rm1 := cellLater hB5 rm1; replace rm2 := cellLater hB5 rm2))
          refine bodyPost_ret (v := .agg #[.int .i64 2, .int .i64 k, .slice none 0 0]) (by simp [results, Tryz.results7, go_sem, rm0, rm1, rm2]) rfl ⟨⟨_, rfl, .slice none 0 0, by rw [hstv.out], fun _ => rfl, fun h => by rw [hstv.out] at h; simp at h⟩, below_set3 (Below.join hBwr (Nat.le_refl _) hB5) (by omega) _ _ _⟩
        · have hnlt : (st.P i).n < (f i).nl := by have := hpart.le i hip; omega
          have hlb := hrun.lb
          have hbase : w2.heap.size ≤ wr.heap.size := Nat.le_trans hWs hBr.size
          have hk10 : k < 10 := by omega
          have hnx := next_main w2.heap.size (w2.heap.size + 1) gR a len cap g gap a' np cap' f c nc v st.P st.last i wr hR hG hpart hip hnlt (by omega) hL hIw hTw
          go_wp2_with (first | (go_at_call 32; refine hl1.mono ?_; rintro _ _ ⟨rfl, rfl⟩) | (go_at_call 33; refine hnx.mono ?_; rintro _ w5 hpost; have hb5 : Below w2.heap.size _ w5 := (hpost.elim (fun h => h.2.2.mono hbase) (fun ⟨_, _, _, _, h, _⟩ => h)); replace rz0 := (hb5.frozen (p := ⟨w.heap.size + 1, 0, none⟩) lR2).trans rz0; replace rz1 := (hb5.frozen (p := ⟨w.heap.size + 1, 1, none⟩) lR2).trans rz1; replace rz2 := (hb5.frozen (p := ⟨w.heap.size + 1, 2, none⟩) lR2).trans rz2; replace rm0 := (hb5.cell (p := ⟨w.heap.size + 1, 0, none⟩) lR2).trans rm0; replace rm1 := (hb5.cell (p := ⟨w.heap.size + 1, 1, none⟩) lR2).trans rm1; replace rm2 := (hb5.cell (p := ⟨w.heap.size + 1, 2, none⟩) lR2).trans rm2; rcases hpost with (⟨hall, rfl, _⟩ | ⟨t, v', hfst, rfl, hB5, hL5⟩)))
          · have hstv : Hid (ST = ⟨3, k, st.P, st.last⟩) := hbad'.out 3 (by decide) (nextOf_three hnn hall)
            clear hbad' hrun1' hall
            go_wp2
            refine bodyPost_ret (v := .agg #[.int .i64 3, .int .i64 k, .slice none 0 0]) (by simp [results, Tryz.results7, go_sem, rm0, rm1, rm2]) rfl ⟨⟨_, rfl, .slice none 0 0, by rw [hstv.out], fun _ => rfl, fun h => by rw [hstv.out] at h; simp at h⟩, below_set3 (hBwr.trans (hb5.mono hlw)) (by omega) _ _ _⟩
          · have hstp := runOk_step hR hG hrun hcode hip hnlt hfst hk10
            have hr1 : Hid (runP np g f gap o (k + 1) = ⟨0, 0, moreP st.P i t, t⟩) := by unfold Hid; rw [hrun1'.out]; exact hstp.1
            have hr2 : Hid _ := hstp.2
            clear hbad' hrun1' hstp hfst
            go_wp2
            go_roundw
            case rel => exact ⟨k + 1, v', by omega, by go_num, by rw [hr1.out], by rw [hr1.out]; exact hr2.out, by rw [hr1.out]; exact hL5, hBr.trans hB5⟩
            case measure => simp [intOf]; omega
    · obtain rfl : k = no := by omega
      have hleg := l1legs_any a len cap gap a' np cap' f wr htr hml hTw
      have hsum := hrun.sum
      obtain ⟨r0, rm0, rz0⟩ := hRw 0 (by omega)
      obtain ⟨r1, rm1, rz1⟩ := hRw 1 (by omega)
      obtain ⟨r2, rm2, rz2⟩ := hRw 2 (by omega)
      have hlegb := hG.legs
      have hn10 : ∀ j, j < np → ((runP np g f gap o k).P j).n ≤ 10 := fun j hj => Nat.le_trans (hrun.part.le j hj) (hR.train j hj).nl
      have hrows := hL.ownP
      by_cases hkl : k = legSum f np
      · have hstv : Hid (ST = runP np g f gap o k) := by unfold Hid; rw [hst'.out, if_neg (by simp [hcode]), if_pos hkl]
        have hat : Hid ((runP np g f gap o k).at_ = 0) := runP_at k hcode
        have hkb : ((k : Int) != (legSum f np : Int)) = false := by simp; omega
        have hkl' : Hid _ := hkl
        generalize legSum f np = lg at hleg hkb hlegb hkl'
        clear hkl
        have x3 := hL.l2.c3
        go_wp2_with (go_at_call 34; refine hleg.mono ?_; rintro _ w5 ⟨rfl, hB5⟩; replace rz0 := (hB5.frozen (ltCell rm0)).trans rz0; replace rz1 := (hB5.frozen (ltCell rm1)).trans rz1; replace rz2 := (hB5.frozen (ltCell rm2)).trans rz2; replace rm0 := cellLater hB5 rm0; replace rm1 := cellLater hB5 rm1; replace rm2 := cellLater hB5 rm2; replace x3 := cellLater hB5 x3; replace hrows := hrows.later hB5)
        refine bodyPost_ret (v := .agg #[.int .i64 0, .int .i64 0, .slice c np nc]) (by simp [results, Tryz.results7, go_sem, rm0, rm1, rm2]) rfl ⟨⟨_, rfl, .slice c np nc, by rw [hstv.out, hcode, hat.out]; rfl, fun h => by rw [hstv.out] at h; exact absurd hcode h, fun _ => ⟨c, nc, rfl, ?_, ?_⟩⟩, below_set3 (Below.join hBwr (Nat.le_refl _) hB5) (by omega) _ _ _⟩
        · rw [hstv.out]
          exact (((hrows.set (by dsimp only; omega)).set (by dsimp only; omega)).set (by dsimp only; omega)).low (by omega)
        · rw [hstv.out]
          exact hn10
      · have hstv : Hid (ST = ⟨4, k, (runP np g f gap o k).P, (runP np g f gap o k).last⟩) := by unfold Hid; rw [hst'.out, if_neg (by simp [hcode]), if_neg hkl]
        have hkb : ((k : Int) != (legSum f np : Int)) = true := by simp; omega
        generalize legSum f np = lg at hleg hkb hlegb
        clear hkl
        go_wp2_with (go_at_call 34; refine hleg.mono ?_; rintro _ w5 ⟨rfl, hB5⟩; replace rz0 := (hB5.frozen (ltCell rm0)).trans rz0; replace rz1 := (hB5.frozen (ltCell rm1)).trans rz1; replace rz2 := (hB5.frozen (ltCell rm2)).trans rz2; replace rm0 := cellLater hB5 rm0; replace rm1 := cellLater hB5 rm1; replace rm2 := cellLater hB5 rm2)
        refine bodyPost_ret (v := .agg #[.int .i64 4, .int .i64 k, .slice none 0 0]) (by simp [results, Tryz.results7, go_sem, rm0, rm1, rm2]) rfl ⟨⟨_, rfl, .slice none 0 0, by rw [hstv.out], fun _ => rfl, fun h => by rw [hstv.out] at h; simp at h⟩, below_set3 (Below.join hBwr (Nat.le_refl _) hB5) (by omega) _ _ _⟩

theorem specPlace_any (a : Option Addr) (len cap : Nat) (g : Nat → Int) (gap : Int) (a' : Option Addr) (np cap' : Nat) (f : Nat → TrainD) (oa : Option Addr) (no oc : Nat) (o : Nat → Int) (w : World) (hl : len ≤ 1048576) (hl' : np ≤ 1048576) (hml : ∀ j, j < np → (f j).nl ≤ 1048576) (hno : no ≤ 1048576)
    (hI : IsInts 0 w.heap.size w a len g) (hT : IsTrains 0 w.heap.size w a' np f) (hO : IsInts 0 w.heap.size w oa no o) :
    Calls Tryz.prog 7 #[.agg #[.slice a len cap, .int .i64 gap, .slice a' np cap'], .slice oa no oc] w fun e w' => (∃ v, e = .returned v ∧ IsPlaced w.heap.size w' (placeSt len g gap np f no o) np v) ∧ Below w.heap.size w w' := by
  by_cases h : (faultOf len g gap np f).1 = 0 ∧ no ≤ 10
  · exact specPlace_main a len cap g gap a' np cap' f oa no oc o w hl hl' hml hI hT hO (faultOf_snd h.1) h.2
  · exact specPlace_line a len cap g gap a' np cap' f oa no oc o w hl hl' hml hI hT hno h
end Go.Proofs.YthnlkpifafklkaaGreatDoor
