/-
  The model's Check, at every argument; the laws' comparison of two clashes.
  The model's Place: what it answers.
  A plan of a call's own memory, written into.
  A plan's rows in the making: a cell of a box that holds them, one row more.
  The plan of a drawn order: the rows where no drawn order can be.
  The plan of a drawn order: the first loop of (*spec.l5Cur).plan.
  A drawn plan, each row of it so much later: spec.APlan.
-/
import Derived.Test.YtelickcfodcmaaaGreatDoorSpecD
import Derived.Test.YtelickcfodcmaaaGreatDoorGC
import Derived.Test.YtelickcfodcmaaaGreatDoorSpecW
import Derived.Test.YtelickcfodcmaaaGreatDoorGB
import Derived.Test.YtelickcfodcmaaaGreatDoorGA
import Derived.Test.YtelickcfodcmaaaGreatDoorApp
import Derived.Maps.AppendAt
namespace Go.Proofs.YtelickcfodcmaaaGreatDoor
open Go.RowKit

/-- the model's Check -/
theorem specCheck_any (a : Option Addr) (len cap : Nat) (g : Nat → Int) (gap : Int) (a' : Option Addr) (len' cap' : Nat) (f : Nat → TrainD) (c : Option Addr) (np nc : Nat) (P : Nat → RowD) (w : World) (hl : len ≤ 1048576) (hl' : len' ≤ 1048576) (hml : ∀ j, j < len' → (f j).nl ≤ 1048576) (hp : np ≤ 1048576) (hmp : ∀ j, j < np → (P j).n ≤ 1048576)
    (hI : IsInts 0 w.heap.size w a len g) (hT : IsTrains 0 w.heap.size w a' len' f) (hP : IsRows 0 w.heap.size w c np P) :
    Calls Tryz.prog 8 #[.agg #[.slice a len cap, .int .i64 gap, .slice a' len' cap'], .agg #[.slice c np nc]] w fun e w' => e = .returned (.agg #[.int .i64 (clashOf len g gap len' f np P).1, .int .i64 (clashOf len g gap len' f np P).2.1, .int .i64 (clashOf len g gap len' f np P).2.2.1, .int .i64 (clashOf len g gap len' f np P).2.2.2]) ∧ Below w.heap.size w w' := by
  by_cases hF : (faultOf len g gap len' f).1 = 0
  · have hF0 := faultOf_snd hF
    cases hS : shapeB len' f np P
    · have e : clashOf len g gap len' f np P = (1, 0, 0, 0) := by unfold clashOf; rw [if_neg (by simp [hS])]
      rw [e]
      exact specCheck_shape a len cap g gap a' len' cap' f c np nc P w hl hl' hml hp hmp hI hT hP hF0 hS
    · exact specCheck_main a len cap g gap a' len' cap' f c np nc P w hl hl' hml hp hmp hI hT hP hF0 hS _ rfl
  · have e : clashOf len g gap len' f np P = (1, 0, 0, 0) := by unfold clashOf; rw [if_neg (by simp [hF])]
    rw [e]
    exact specCheck_line a len cap g gap a' len' cap' f c np nc w hl hl' hml hI hT hF
end Go.Proofs.YtelickcfodcmaaaGreatDoor

namespace Go.Proofs.YtelickcfodcmaaaGreatDoor
open Go.RowKit

set_option maxRecDepth 20000 in
set_option maxHeartbeats 4000000 in
theorem next_two (b : Nat) (a : Option Addr) (len cap : Nat) (gap : Int) (a' : Option Addr) (np cap' : Nat) (f : Nat → TrainD) (c : Option Addr) (nc : Nat) (P : Nat → RowD) (last : Int) (i : Nat) (w : World) (hR : RightL len np f) (hi : i < np) (hk : (P i).n = (f i).nl)
    (hL : L2 w b a len cap gap a' np cap' c nc last) (hT : IsTrains 0 w.heap.size w a' np f) (hP : IsRows 0 w.heap.size w c np P) :
    Calls Tryz.prog 91 #[.pointer (some ⟨b, 0, none⟩), .int .i64 i] w fun e w' => e = .returned (.int .i64 2) ∧ Below w.heap.size w w' := by
  have htr := hR.tr
  have hnl := (hR.train i hi).nl
  have hi' : (i : Int) < (np : Int) := by omega
  have hi0 : (0 : Int) ≤ (i : Int) := by omega
  have hkd : (((P i).n : Int) == ((f i).nl : Int)) = true := by simp; omega
  have x2 := hL.c2
  have x3 := hL.c3
  have lb := ltCell x3
  dsimp only at lb
  obtain ⟨bt, ot, la, lc, rfl, _, hbt, t0, t1, t2, t3, t4, hlg, _⟩ := hT i hi
  obtain ⟨bp, op, lp, lpc, rfl, _, hbp, p0, hin, _⟩ := hP i hi
  go_enter Tryz.func91, Tryz.ntmps91
  go_wp2
  go_ret
  exact ⟨rfl, b1 _ _⟩

set_option maxRecDepth 20000 in
set_option maxHeartbeats 4000000 in
theorem specPlace_line (a : Option Addr) (len cap : Nat) (g : Nat → Int) (gap : Int) (a' : Option Addr) (np cap' : Nat) (f : Nat → TrainD) (oa : Option Addr) (no oc : Nat) (o : Nat → Int) (w : World) (hl : len ≤ 1048576) (hl' : np ≤ 1048576) (hml : ∀ j, j < np → (f j).nl ≤ 1048576)
    (hI : IsInts 0 w.heap.size w a len g) (hT : IsTrains 0 w.heap.size w a' np f) (hno : no ≤ 1048576) (hbad : ¬ ((faultOf len g gap np f).1 = 0 ∧ no ≤ 10)) :
    Calls Tryz.prog 54 #[.agg #[.slice a len cap, .int .i64 gap, .slice a' np cap'], .slice oa no oc] w fun e w' => (∃ v, e = .returned v ∧ IsPlaced w.heap.size w' (placeSt len g gap np f no o) np v) ∧ Below w.heap.size w w' := by
  have hst : placeSt len g gap np f no o = ⟨1, 0, fun _ => ⟨0, fun _ => 0⟩, 0⟩ := by unfold placeSt; rw [if_neg hbad]
  rw [hst]
  have hN := b2 w (.cells #[.slice a len cap, .int .i64 gap, .slice a' np cap'] 26) (.cells #[.int .i64 0, .int .i64 0, .slice none 0 0] 38)
  obtain ⟨⟨y0, y1, y2⟩, hRm⟩ := box31 w a len cap gap a' np cap' 26 38
  have hend : ∀ w2, Below ((w.alloc (.cells #[.slice a len cap, .int .i64 gap, .slice a' np cap'] 26)).alloc (.cells #[.int .i64 0, .int .i64 0, .slice none 0 0] 38)).heap.size ((w.alloc (.cells #[.slice a len cap, .int .i64 gap, .slice a' np cap'] 26)).alloc (.cells #[.int .i64 0, .int .i64 0, .slice none 0 0] 38)) w2 → Room (w.heap.size + 1) 3 w2 := fun w2 h => hRm.below h (by simp)
  by_cases hF : (faultOf len g gap np f).1 = 0
  · have hn : ¬ no ≤ 10 := fun h => hbad ⟨hF, h⟩
    have hn' : (10 : Int) < (no : Int) := by omega
    have hok := l1ok_yes a len cap g gap a' np cap' f _ hl hl' hml (hI.grow hN) (hT.grow hN) (faultOf_snd hF)
    go_enter Tryz.func54, Tryz.ntmps54
    go_wp2_with (go_at_call 29; refine hok.mono ?_; rintro _ w2 ⟨rfl, hB2⟩; obtain ⟨v0, m0, z0⟩ := hend _ hB2 0 (by omega); obtain ⟨v1, m1, z1⟩ := hend _ hB2 1 (by omega); obtain ⟨v2, m2, z2⟩ := hend _ hB2 2 (by omega))
    refine bodyPost_ret (v := .agg #[.int .i64 1, .int .i64 0, .slice none 0 0]) (by simp [results, Tryz.results54, go_sem, m0, m1, m2]) rfl ⟨⟨_, rfl, .slice none 0 0, rfl, fun _ => rfl, fun h => by simp at h⟩, ?_⟩
    exact below_set3 (Below.join hN (Nat.le_refl _) hB2) (by omega) _ _ _
  · have hok := l1ok_no a len cap g gap a' np cap' f _ hl hl' hml (hI.grow hN) (hT.grow hN) hF
    go_enter Tryz.func54, Tryz.ntmps54
    go_wp2_with (go_at_call 29; refine hok.mono ?_; rintro _ w2 ⟨rfl, hB2⟩; obtain ⟨v0, m0, z0⟩ := hend _ hB2 0 (by omega); obtain ⟨v1, m1, z1⟩ := hend _ hB2 1 (by omega); obtain ⟨v2, m2, z2⟩ := hend _ hB2 2 (by omega))
    refine bodyPost_ret (v := .agg #[.int .i64 1, .int .i64 0, .slice none 0 0]) (by simp [results, Tryz.results54, go_sem, m0, m1, m2]) rfl ⟨⟨_, rfl, .slice none 0 0, rfl, fun _ => rfl, fun h => by simp at h⟩, ?_⟩
    exact below_set3 (Below.join hN (Nat.le_refl _) hB2) (by omega) _ _ _

set_option maxRecDepth 20000 in
set_option maxHeartbeats 8000000 in
theorem specPlace_main (a : Option Addr) (len cap : Nat) (g : Nat → Int) (gap : Int) (a' : Option Addr) (np cap' : Nat) (f : Nat → TrainD) (oa : Option Addr) (no oc : Nat) (o : Nat → Int) (w : World) (hl : len ≤ 1048576) (hl' : np ≤ 1048576) (hml : ∀ j, j < np → (f j).nl ≤ 1048576)
    (hI : IsInts 0 w.heap.size w a len g) (hT : IsTrains 0 w.heap.size w a' np f) (hO : IsInts 0 w.heap.size w oa no o) (hF : faultOf len g gap np f = (0, 0)) (hno : no ≤ 10) :
    Calls Tryz.prog 54 #[.agg #[.slice a len cap, .int .i64 gap, .slice a' np cap'], .slice oa no oc] w fun e w' => (∃ v, e = .returned v ∧ IsPlaced w.heap.size w' (placeSt len g gap np f no o) np v) ∧ Below w.heap.size w w' := by
  have hR := rightL_of hF
  have hG := rightG_of hF
  have htr := hR.tr
  have hst : placeSt len g gap np f no o = if (runP np g f gap o no).code ≠ 0 then runP np g f gap o no else if no = legSum f np then runP np g f gap o no else ⟨4, no, (runP np g f gap o no).P, (runP np g f gap o no).last⟩ := by unfold placeSt; rw [if_pos ⟨by rw [hF], hno⟩]
  have hst' : Hid _ := hst
  generalize placeSt len g gap np f no o = ST at hst'
  clear hst
  have hN := b2 w (.cells #[.slice a len cap, .int .i64 gap, .slice a' np cap'] 26) (.cells #[.int .i64 0, .int .i64 0, .slice none 0 0] 38)
  obtain ⟨⟨y0, y1, y2⟩, hRm⟩ := box31 w a len cap gap a' np cap' 26 38
  have hok := l1ok_yes a len cap g gap a' np cap' f _ hl hl' hml (hI.grow hN) (hT.grow hN) hF
  have hno' : ¬ ((10 : Int) < (no : Int)) := by omega
  have lR : w.heap.size + 1 < ((w.alloc (.cells #[.slice a len cap, .int .i64 gap, .slice a' np cap'] 26)).alloc (.cells #[.int .i64 0, .int .i64 0, .slice none 0 0] 38)).heap.size := by simp
  go_enter Tryz.func54, Tryz.ntmps54
  go_wp2_with (first | (go_at_call 29; refine hok.mono ?_; rintro _ w2 ⟨rfl, hB2⟩; have hBw := Below.join hN (Nat.le_refl _) hB2; replace y0 := cellLater hB2 y0; replace y1 := cellLater hB2 y1; replace y2 := cellLater hB2 y2; replace hRm := hRm.below hB2 lR; have lR2 := Nat.lt_of_lt_of_le lR hB2.size) | (go_at_call 90; refine (l2new_any a len cap gap a' np cap' w2 htr).mono ?_; rintro _ W ⟨⟨gR, c, nc, rfl, hLP⟩, hB3⟩; replace hBw := Below.join hBw (Nat.le_refl _) hB3; replace y0 := cellLater hB3 y0; replace y1 := cellLater hB3 y1; replace y2 := cellLater hB3 y2; replace hRm := hRm.below hB3 lR2))
  have hWs : w2.heap.size ≤ W.heap.size := hB3.size
  clear hok hB2 hN hB3 hno'
  go_loopw [22] (fun kk wr => ∃ (k : Nat) (v : Nat → Value), k ≤ no ∧ kk = .int .i64 k ∧ (runP np g f gap o k).code = 0 ∧ RunOk len np g f gap (runP np g f gap o k) k ∧ LP w2.heap.size wr (w2.heap.size + 1) gR a len cap gap a' np cap' c nc v (runP np g f gap o k).P (runP np g f gap o k).last ∧ Below w2.heap.size W wr) (fun kk _ => no - (intOf kk).toNat)
  case atStart => exact ⟨0, _, Nat.zero_le _, rfl, rfl, runP_zero np g f gap o len, hLP, Below.refl _ _⟩
  case round =>
    obtain ⟨k, v, hk, rfl, hcode, hrun, hL, hBr⟩ := hrel
    have hlw : w.heap.size ≤ w2.heap.size := by omega
    have hBwr : Below w.heap.size w wr := hBw.trans (hBr.mono hlw)
    have z0 := (hBr.cell (p := ⟨w.heap.size, 0, none⟩) (by dsimp only; omega)).trans y0
    have z1 := (hBr.cell (p := ⟨w.heap.size, 1, none⟩) (by dsimp only; omega)).trans y1
    have z2 := (hBr.cell (p := ⟨w.heap.size, 2, none⟩) (by dsimp only; omega)).trans y2
    have hIw := (hI.below hBwr (Nat.le_refl _)).mono (Nat.le_refl 0) hBwr.size
    have hTw := (hT.below hBwr (Nat.le_refl _)).mono (Nat.le_refl 0) hBwr.size
    have hRw := hRm.below hBr (by omega)
    by_cases hlt : k < no
    · have hk' : (k : Int) < (no : Int) := by omega
      have hk0 : (0 : Int) ≤ (k : Int) := by omega
      obtain ⟨bo, oo, rfl, _, _, qo⟩ := hO k hlt
      replace qo := (hBwr.cell (p := ⟨bo, oo + k, none⟩) (by dsimp only; omega)).trans qo
      have hrun1 : runP np g f gap o (k + 1) = stepP np g f gap (o k) k (runP np g f gap o k) := rfl
      have hstick : ∀ st : StP, runP np g f gap o (k + 1) = st → st.code ≠ 0 → runP np g f gap o no = st := fun st h1 h2 => by
        have := runP_stick (np := np) (g := g) (f := f) (gap := gap) (o := o) (k := k + 1) (by rw [h1]; exact h2) (no - (k + 1))
        rw [show k + 1 + (no - (k + 1)) = no by omega, h1] at this
        exact this
      have hrun1' : Hid _ := hrun1
      have hstick' : Hid _ := hstick
      clear hrun1 hstick
      generalize hst0 : runP np g f gap o k = st at hcode hrun hL
      rw [hst0] at hrun1'
      clear hst0
      generalize o k = ok at qo hrun1'
      obtain ⟨r0, rm0, rz0⟩ := hRw 0 (by omega)
      obtain ⟨r1, rm1, rz1⟩ := hRw 1 (by omega)
      obtain ⟨r2, rm2, rz2⟩ := hRw 2 (by omega)
      have hwn : IntKind.i64.wrap ((np : Int) - 1) = (np : Int) - 1 := by rw [IntKind.wrap_i64]; omega
      have hl1 := l1in_any ok 0 ((np : Int) - 1) wr
      cases hin : inB ok 0 ((np : Int) - 1)
      · have hstv : Hid (ST = ⟨2, k, st.P, st.last⟩) := by
          unfold Hid
          have h1 : runP np g f gap o (k + 1) = ⟨2, k, st.P, st.last⟩ := by rw [hrun1'.out]; unfold stepP; rw [if_neg (by simp [hcode]), if_neg (by simp [hin])]
          have h2 := hstick'.out _ h1 (by simp)
          rw [hst'.out, h2, if_pos (by simp)]
        rw [hin] at hl1
        clear hin hrun1' hstick'
        go_wp2_with (go_at_call 62; refine hl1.mono ?_; rintro _ _ ⟨rfl, rfl⟩)
        refine bodyPost_ret (v := .agg #[.int .i64 2, .int .i64 k, .slice none 0 0]) (by simp [results, Tryz.results54, go_sem, rm0, rm1, rm2]) rfl ⟨⟨_, rfl, .slice none 0 0, by rw [hstv.out], fun _ => rfl, fun h => by rw [hstv.out] at h; simp at h⟩, below_set3 hBwr (by omega) _ _ _⟩
      · rw [hin] at hl1
        obtain ⟨h00, h01⟩ := of_decide_eq_true hin
        obtain ⟨i, hi⟩ : ∃ i : Nat, ok = (i : Int) := ⟨ok.toNat, by omega⟩
        subst hi
        have hip : i < np := by omega
        have hpart := hrun.part
        have hn10 : ∀ j, j < np → (st.P j).n ≤ 10 := fun j hj => Nat.le_trans (hpart.le j hj) (hR.train j hj).nl
        clear h00 h01
        have hbad : ∀ cc : Int, cc ≠ 0 → nextOf np g f st.P gap st.last i = (cc, 0) → ST = ⟨cc, k, st.P, st.last⟩ := fun cc hc hn => by
          have h1 : runP np g f gap o (k + 1) = ⟨cc, k, st.P, st.last⟩ := by rw [hrun1'.out]; unfold stepP; rw [if_neg (by simp [hcode]), if_pos hin, Int.toNat_natCast, hn, if_neg (by simpa using hc)]
          have h2 := hstick'.out _ h1 hc
          rw [hst'.out, h2, if_pos hc]
        have hbad' : Hid _ := hbad
        have hin' : Hid _ := hin
        clear hbad hin hstick'
        by_cases hnn : (st.P i).n = (f i).nl
        · have hnx := next_two (w2.heap.size + 1) a len cap gap a' np cap' f c nc st.P st.last i wr hR hip hnn hL.l2 hTw (hL.rows hn10)
          have hstv : Hid (ST = ⟨2, k, st.P, st.last⟩) := hbad'.out 2 (by decide) (nextOf_two hnn)
          clear hbad' hrun1'
          go_wp2_with (first | (go_at_call 62; refine hl1.mono ?_; rintro _ _ ⟨rfl, rfl⟩) | (go_at_call 91; refine hnx.mono ?_; rintro _ w5 ⟨rfl, hB5⟩; replace rz0 := (hB5.frozen (ltCell rm0)).trans rz0; replace rz1 := (hB5.frozen (ltCell rm1)).trans rz1; replace rz2 := (hB5.frozen (ltCell rm2)).trans rz2; replace rm0 := cellLater hB5 rm0; replace rm1 := cellLater hB5 rm1; replace rm2 := cellLater hB5 rm2))
          refine bodyPost_ret (v := .agg #[.int .i64 2, .int .i64 k, .slice none 0 0]) (by simp [results, Tryz.results54, go_sem, rm0, rm1, rm2]) rfl ⟨⟨_, rfl, .slice none 0 0, by rw [hstv.out], fun _ => rfl, fun h => by rw [hstv.out] at h; simp at h⟩, below_set3 (Below.join hBwr (Nat.le_refl _) hB5) (by omega) _ _ _⟩
        · have hnlt : (st.P i).n < (f i).nl := by have := hpart.le i hip; omega
          have hlb := hrun.lb
          have hbase : w2.heap.size ≤ wr.heap.size := Nat.le_trans hWs hBr.size
          have hk10 : k < 10 := by omega
          have hnx := next_main w2.heap.size (w2.heap.size + 1) gR a len cap g gap a' np cap' f c nc v st.P st.last i wr hR hG hpart hip hnlt (by omega) hL hIw hTw
          go_wp2_with (first | (go_at_call 62; refine hl1.mono ?_; rintro _ _ ⟨rfl, rfl⟩) | (go_at_call 91; refine hnx.mono ?_; rintro _ w5 hpost; have hb5 : Below w2.heap.size _ w5 := (hpost.elim (fun h => h.2.2.mono hbase) (fun ⟨_, _, _, _, h, _⟩ => h)); replace rz0 := (hb5.frozen (p := ⟨w.heap.size + 1, 0, none⟩) lR2).trans rz0; replace rz1 := (hb5.frozen (p := ⟨w.heap.size + 1, 1, none⟩) lR2).trans rz1; replace rz2 := (hb5.frozen (p := ⟨w.heap.size + 1, 2, none⟩) lR2).trans rz2; replace rm0 := (hb5.cell (p := ⟨w.heap.size + 1, 0, none⟩) lR2).trans rm0; replace rm1 := (hb5.cell (p := ⟨w.heap.size + 1, 1, none⟩) lR2).trans rm1; replace rm2 := (hb5.cell (p := ⟨w.heap.size + 1, 2, none⟩) lR2).trans rm2; rcases hpost with (⟨hall, rfl, _⟩ | ⟨t, v', hfst, rfl, hB5, hL5⟩)))
          · have hstv : Hid (ST = ⟨3, k, st.P, st.last⟩) := hbad'.out 3 (by decide) (nextOf_three hnn hall)
            clear hbad' hrun1' hall
            go_wp2
            refine bodyPost_ret (v := .agg #[.int .i64 3, .int .i64 k, .slice none 0 0]) (by simp [results, Tryz.results54, go_sem, rm0, rm1, rm2]) rfl ⟨⟨_, rfl, .slice none 0 0, by rw [hstv.out], fun _ => rfl, fun h => by rw [hstv.out] at h; simp at h⟩, below_set3 (hBwr.trans (hb5.mono hlw)) (by omega) _ _ _⟩
          · have hstp := runOk_step hR hG hrun hcode hip hnlt hfst hk10
            have hr1 : Hid (runP np g f gap o (k + 1) = ⟨0, 0, moreP st.P i t, t⟩) := by unfold Hid; rw [hrun1'.out]; exact hstp.1
            have hr2 : Hid _ := hstp.2
            clear hbad' hrun1' hstp hfst
            go_wp2
            go_roundw
            case rel => exact ⟨k + 1, v', by omega, by go_num, by rw [hr1.out], by rw [hr1.out]; exact hr2.out, by rw [hr1.out]; exact hL5, hBr.trans hB5⟩
            case measure => simp [intOf]; omega
    · obtain rfl : k = no := by omega
      have hleg := l1legs_any a len cap gap a' np cap' f wr htr hml hTw
      have hsum := hrun.sum
      obtain ⟨r0, rm0, rz0⟩ := hRw 0 (by omega)
      obtain ⟨r1, rm1, rz1⟩ := hRw 1 (by omega)
      obtain ⟨r2, rm2, rz2⟩ := hRw 2 (by omega)
      have hlegb := hG.legs
      have hn10 : ∀ j, j < np → ((runP np g f gap o k).P j).n ≤ 10 := fun j hj => Nat.le_trans (hrun.part.le j hj) (hR.train j hj).nl
      have hrows := hL.ownP
      by_cases hkl : k = legSum f np
      · have hstv : Hid (ST = runP np g f gap o k) := by unfold Hid; rw [hst'.out, if_neg (by simp [hcode]), if_pos hkl]
        have hat : Hid ((runP np g f gap o k).at_ = 0) := runP_at k hcode
        have hkb : ((k : Int) != (legSum f np : Int)) = false := by simp; omega
        have hkl' : Hid _ := hkl
        generalize legSum f np = lg at hleg hkb hlegb hkl'
        clear hkl
        have x3 := hL.l2.c3
        go_wp2_with (go_at_call 92; refine hleg.mono ?_; rintro _ w5 ⟨rfl, hB5⟩; replace rz0 := (hB5.frozen (ltCell rm0)).trans rz0; replace rz1 := (hB5.frozen (ltCell rm1)).trans rz1; replace rz2 := (hB5.frozen (ltCell rm2)).trans rz2; replace rm0 := cellLater hB5 rm0; replace rm1 := cellLater hB5 rm1; replace rm2 := cellLater hB5 rm2; replace x3 := cellLater hB5 x3; replace hrows := hrows.later hB5)
        refine bodyPost_ret (v := .agg #[.int .i64 0, .int .i64 0, .slice c np nc]) (by simp [results, Tryz.results54, go_sem, rm0, rm1, rm2]) rfl ⟨⟨_, rfl, .slice c np nc, by rw [hstv.out, hcode, hat.out]; rfl, fun h => by rw [hstv.out] at h; exact absurd hcode h, fun _ => ⟨c, nc, rfl, ?_, ?_⟩⟩, below_set3 (Below.join hBwr (Nat.le_refl _) hB5) (by omega) _ _ _⟩
        · rw [hstv.out]
          exact (((hrows.set (by dsimp only; omega)).set (by dsimp only; omega)).set (by dsimp only; omega)).low (by omega)
        · rw [hstv.out]
          exact hn10
      · have hstv : Hid (ST = ⟨4, k, (runP np g f gap o k).P, (runP np g f gap o k).last⟩) := by unfold Hid; rw [hst'.out, if_neg (by simp [hcode]), if_neg hkl]
        have hkb : ((k : Int) != (legSum f np : Int)) = true := by simp; omega
        generalize legSum f np = lg at hleg hkb hlegb
        clear hkl
        go_wp2_with (go_at_call 92; refine hleg.mono ?_; rintro _ w5 ⟨rfl, hB5⟩; replace rz0 := (hB5.frozen (ltCell rm0)).trans rz0; replace rz1 := (hB5.frozen (ltCell rm1)).trans rz1; replace rz2 := (hB5.frozen (ltCell rm2)).trans rz2; replace rm0 := cellLater hB5 rm0; replace rm1 := cellLater hB5 rm1; replace rm2 := cellLater hB5 rm2)
        refine bodyPost_ret (v := .agg #[.int .i64 4, .int .i64 k, .slice none 0 0]) (by simp [results, Tryz.results54, go_sem, rm0, rm1, rm2]) rfl ⟨⟨_, rfl, .slice none 0 0, by rw [hstv.out], fun _ => rfl, fun h => by rw [hstv.out] at h; simp at h⟩, below_set3 (Below.join hBwr (Nat.le_refl _) hB5) (by omega) _ _ _⟩

theorem specPlace_any (a : Option Addr) (len cap : Nat) (g : Nat → Int) (gap : Int) (a' : Option Addr) (np cap' : Nat) (f : Nat → TrainD) (oa : Option Addr) (no oc : Nat) (o : Nat → Int) (w : World) (hl : len ≤ 1048576) (hl' : np ≤ 1048576) (hml : ∀ j, j < np → (f j).nl ≤ 1048576) (hno : no ≤ 1048576)
    (hI : IsInts 0 w.heap.size w a len g) (hT : IsTrains 0 w.heap.size w a' np f) (hO : IsInts 0 w.heap.size w oa no o) :
    Calls Tryz.prog 54 #[.agg #[.slice a len cap, .int .i64 gap, .slice a' np cap'], .slice oa no oc] w fun e w' => (∃ v, e = .returned v ∧ IsPlaced w.heap.size w' (placeSt len g gap np f no o) np v) ∧ Below w.heap.size w w' := by
  by_cases h : (faultOf len g gap np f).1 = 0 ∧ no ≤ 10
  · exact specPlace_main a len cap g gap a' np cap' f oa no oc o w hl hl' hml hI hT hO (faultOf_snd h.1) h.2
  · exact specPlace_line a len cap g gap a' np cap' f oa no oc o w hl hl' hml hI hT hno h
end Go.Proofs.YtelickcfodcmaaaGreatDoor

namespace Go.Proofs.YtelickcfodcmaaaGreatDoor
open Go.RowKit

/-- a start, put -/
def putP (P : Nat → RowD) (i m : Nat) (x : Int) : Nat → RowD := fun j => if j = i then ⟨(P j).n, fun q => if q = m then x else (P j).s q⟩ else P j
theorem putP_n (P : Nat → RowD) (i m : Nat) (x : Int) (j : Nat) : (putP P i m x j).n = (P j).n := by unfold putP; split <;> rfl
theorem putP_other {P : Nat → RowD} {i m : Nat} {x : Int} {j : Nat} (h : j ≠ i) : putP P i m x j = P j := by unfold putP; rw [if_neg h]
theorem rowCells_put (P : Nat → RowD) (i m : Nat) (x : Int) : rowCells (putP P i m x i) = (rowCells (P i)).set m (.int .i64 x) := by
  unfold rowCells putP
  rw [if_pos rfl]
  apply List.ext_getElem?
  intro q
  rw [List.getElem?_set]
  simp only [List.length_map, List.length_range, List.getElem?_map]
  by_cases e : m = q
  · subst e
    rw [if_pos rfl]
    by_cases h : m < (P i).n
    · rw [if_pos h, List.getElem?_range h]; simp
    · rw [if_neg h, List.getElem?_eq_none (by simp; omega)]; rfl
  · rw [if_neg e]
    by_cases h : q < (P i).n
    · rw [List.getElem?_range h]
      simp only [Option.map_some]
      rw [if_neg (fun e2 => e e2.symm)]
    · rw [List.getElem?_eq_none (by simp; omega)]; rfl
/-- a start of a plan of its own can be read and written -/
theorem OwnP.put {B0 : Nat} {W : World} {c : Option Addr} {np : Nat} {P : Nat → RowD} (h : OwnP B0 W c np P) {i m : Nat} (hi : i < np) (hm : m < (P i).n) :
    ∃ gR g cap, c = some ⟨gR, 0, none⟩ ∧ W.cell? ⟨gR, i, none⟩ = some (.slice (some ⟨g, 0, none⟩) (P i).n cap) ∧ W.cell? ⟨g, m, none⟩ = some (.int .i64 ((P i).s m)) ∧ W.frozen? ⟨g, m, none⟩ = false ∧ B0 ≤ g ∧ ∀ x, OwnP B0 (W.setCell ⟨g, m, none⟩ (.int .i64 x)) c np (putP P i m x) := by
  obtain ⟨gR, v, h1, h2, h3, h4, h5⟩ := h
  obtain ⟨e, hc, hz⟩ := h2 i hi
  have ho := h3 i hi
  rcases ho.2 with ⟨e0, h0⟩ | ⟨g, cp, cur, e0, hb, hg, _⟩
  · omega
  · have ho' := ho
    rw [e0] at ho'
    have hgR : g ≠ gR := fun e2 => h5 i hi (by rw [e0, ← e2]; rfl)
    refine ⟨gR, g, cp, e, by rw [hc, e0], by rw [ho'.cellAt m (by omega)]; exact rowCells_at _ _ hm, ho'.frozenAt m, (ho'.lt g rfl).1, fun x => ⟨gR, v, h1, fun j hj => ?_, fun j hj => ?_, h4, h5⟩⟩
    · obtain ⟨e3, hc3, hz3⟩ := h2 j hj
      exact ⟨e3, (World.cell?_of_block (a := ⟨gR, j, none⟩) (Below.heap_setCell W ⟨g, m, none⟩ _ gR (fun e2 => hgR e2.symm))).trans hc3, (World.frozen?_setCell ..).trans hz3⟩
    · rw [putP_n]
      by_cases ej : j = i
      · subst ej
        rw [rowCells_put, e0]
        exact ownsRow_put ho' m _
      · rw [putP_other ej]
        refine ownsRow_setCell_other (h3 j hj) (fun e2 => ?_) _
        rcases h4 j i hj hi ej with e3 | e3
        · rw [e3] at e2; cases e2
        · exact e3 (e2.trans (by rw [e0]; rfl))
end Go.Proofs.YtelickcfodcmaaaGreatDoor

namespace Go.Proofs.YtelickcfodcmaaaGreatDoor
open Go.RowKit

theorem rowCells_list (A : List Int) : rowCells ⟨A.length, gI A⟩ = intCells A := by
  unfold rowCells intCells gI
  apply List.ext_getElem?
  intro j
  dsimp only
  rw [List.getElem?_map, List.getElem?_map]
  by_cases h : j < A.length
  · rw [List.getElem?_range h, List.getElem?_eq_getElem h]
    simp [List.getD_eq_getElem?_getD, List.getElem?_eq_getElem h]
  · rw [List.getElem?_eq_none (by simp; omega), List.getElem?_eq_none (by omega)]; rfl
/-- j rows, in the row that cell o of the box at block q holds -/
structure PutR (q o : Nat) (wr : World) (P : Nat → RowD) (j : Nat) (vS : Value) (v : Nat → Value) : Prop where
  c : wr.cell? ⟨q, o, none⟩ = some vS
  z : wr.frozen? ⟨q, o, none⟩ = false
  own : wr.ownsRow (q + 1) 23 1 vS j ((List.range j).map v)
  rows : ∀ k, k < j → wr.ownsRow (q + 1) 3 1 (v k) (P k).n (rowCells (P k))
  off : ∀ k, k < j → ∀ x, (v k).ownBlock = some x → vS.ownBlock ≠ some x
  apart : ∀ k m, k < j → m < j → k ≠ m → Apart (v k) (v m)
section
variable {q o : Nat} {wr : World} {P : Nat → RowD} {j : Nat} {vS : Value} {v : Nat → Value}
theorem PutR.nil {q o : Nat} {wr : World} (P : Nat → RowD) (v : Nat → Value) (hc : wr.cell? ⟨q, o, none⟩ = some (.slice none 0 0)) (hz : wr.frozen? ⟨q, o, none⟩ = false) : PutR q o wr P 0 (.slice none 0 0) v :=
  ⟨hc, hz, World.ownsRow_nil _ _ _ _, fun k hk => absurd hk (Nat.not_lt_zero k), fun k hk => absurd hk (Nat.not_lt_zero k), fun k _ hk => absurd hk (Nat.not_lt_zero k)⟩
theorem PutR.later (h : PutR q o wr P j vS v) {W' : World} (hB : Below wr.heap.size wr W') : PutR q o W' P j vS v :=
  ⟨cellLater hB h.c, (hB.frozen (ltCell h.c)).trans h.z, ownsRow_later h.own hB, fun k hk => ownsRow_later (h.rows k hk) hB, h.off, h.apart⟩
theorem PutR.set (h : PutR q o wr P j vS v) {o' : Nat} (ho : o ≠ o') (x : Value) : PutR q o (wr.setCell ⟨q, o', none⟩ x) P j vS v :=
  ⟨(cell_set_ne (by omega)).trans h.c, (World.frozen?_setCell ..).trans h.z, ownsRow_setCell_below h.own (Nat.lt_succ_self _) _, fun k hk => ownsRow_setCell_below (h.rows k hk) (Nat.lt_succ_self _) _, h.off, h.apart⟩
theorem PutR.ownP (h : PutR q o wr P j vS v) : ∃ c nc, vS = .slice c j nc ∧ OwnP (q + 1) wr c j P := by
  rcases h.own.2 with ⟨e, h0⟩ | ⟨g, cap, cur, e, hb, hgg, _⟩
  · exact ⟨none, 0, by rw [e, h0], q + 1, v, Nat.le_refl _, fun k hk => by omega, fun k hk => by omega, fun k _ hk => by omega, fun k hk => by omega⟩
  · have ho := h.own
    rw [e] at ho
    refine ⟨some ⟨g, 0, none⟩, cap, e, g, v, (ho.lt g rfl).1, fun k hk => ⟨rfl, ?_, ho.frozenAt k⟩, h.rows, h.apart, fun k hk e2 => h.off k hk g e2 (by rw [e]; rfl)⟩
    rw [ho.cellAt k (by omega), List.getElem?_map, List.getElem?_range hk]; rfl
theorem PutR.step {W1 W2 : World} {vN v' : Value} {ob : Obj} {R : RowD} (h : PutR q o wr P j vS v) (hB1 : Below wr.heap.size wr W1) (hrow : W1.ownsRow (q + 1) 3 1 vN R.n (rowCells R)) (hnew : ∀ x, vN.ownBlock = some x → wr.heap.size ≤ x)
    (ho : W2.ownsRow (q + 1) 23 1 v' (j + 1) ((List.range j).map v ++ [vN])) (hg : (W1.alloc ob).grownBy W2 vS.ownBlock) (hloc : v'.ownBlock = vS.ownBlock ∨ v'.ownBlock = some (W1.alloc ob).heap.size) :
    PutR q o (W2.setCell ⟨q, o, none⟩ v') (fun k => if k = j then R else P k) (j + 1) v' (fun k => if k = j then vN else v k) ∧ W2.cell? ⟨q, o, none⟩ = some vS ∧ W2.frozen? ⟨q, o, none⟩ = false ∧ ∀ x, x < wr.heap.size → vS.ownBlock ≠ some x → W2.heap[x]? = wr.heap[x]? := by
  have hB := Below.join hB1 (Nat.le_refl _) (b1 W1 ob)
  have hs1 := hB1.size
  have lq : q < wr.heap.size := ltCell h.c
  have hsz : (W1.alloc ob).heap.size = W1.heap.size + 1 := World.size_alloc ..
  have hkeep : ∀ x, x < W1.heap.size + 1 → vS.ownBlock ≠ some x → W2.heap[x]? = (W1.alloc ob).heap[x]? := fun x hx hn => hg.block x (by omega) (fun e => hn e.symm)
  have hqS : vS.ownBlock ≠ some q := fun e => by have := (h.own.lt q e).1; omega
  have hk : W2.heap[q]? = (W1.alloc ob).heap[q]? := hkeep q (by omega) hqS
  have cc : W2.cell? ⟨q, o, none⟩ = some vS := (World.cell?_of_block (w := W1.alloc ob) (w' := W2) (a := ⟨q, o, none⟩) hk).trans (cellLater hB h.c)
  have zz : W2.frozen? ⟨q, o, none⟩ = false := (World.frozen?_of_block (w := W1.alloc ob) (w' := W2) (a := ⟨q, o, none⟩) hk).trans ((hB.frozen (ltCell h.c)).trans h.z)
  have hold : ∀ k, k < j → ∀ x, (v k).ownBlock = some x → q + 1 ≤ x ∧ x < wr.heap.size := fun k hk x hx => (h.rows k hk).lt x hx
  have hnl : ∀ x, vN.ownBlock = some x → q + 1 ≤ x ∧ x < W1.heap.size := fun x hx => hrow.lt x hx
  have hvS : ∀ x, vS.ownBlock = some x → x < wr.heap.size := fun x hx => (h.own.lt x hx).2
  have hv' : ∀ x, v'.ownBlock = some x → vS.ownBlock = some x ∨ x = W1.heap.size + 1 := fun x hx => by
    rcases hloc with e | e
    · exact Or.inl (e.symm.trans hx)
    · rw [e, hsz] at hx; cases hx; exact Or.inr rfl
  have hmap : (List.range (j + 1)).map (fun k => if k = j then vN else v k) = (List.range j).map v ++ [vN] := by
    rw [List.range_succ, List.map_append]
    congr 1
    · apply List.map_congr_left
      intro k hk
      have : k < j := List.mem_range.1 hk
      rw [if_neg (by omega)]
    · simp
  refine ⟨⟨World.cell?_setCell_same _ _ _ cc, by rw [World.frozen?_setCell]; exact zz, ?_, fun k hk => ?_, fun k hk x hx e => ?_, fun k m hk hm hne => ?_⟩, cc, zz, fun x hx hn => (hkeep x (by omega) hn).trans (hB.block x hx)⟩
  · rw [hmap]; exact ownsRow_setCell_below ho (Nat.lt_succ_self _) _
  · refine ownsRow_setCell_below ?_ (Nat.lt_succ_self _) _
    by_cases e : k = j
    · subst e
      rw [if_pos rfl, if_pos rfl]
      exact ownsRow_same (ownsRow_later hrow (b1 W1 ob)) (fun x hx => hkeep x (by have := hnl x hx; omega) (fun e2 => by have := hvS x e2; have := hnew x hx; omega))
    · rw [if_neg e, if_neg e]
      exact ownsRow_same (ownsRow_later (h.rows k (by omega)) hB) (fun x hx => hkeep x (by have := hold k (by omega) x hx; omega) (h.off k (by omega) x hx))
  · rcases hv' x e with e2 | e2
    · by_cases ek : k = j
      · rw [if_pos ek] at hx; have := hnew x hx; have := hvS x e2; omega
      · rw [if_neg ek] at hx; exact h.off k (by omega) x hx e2
    · by_cases ek : k = j
      · rw [if_pos ek] at hx; have := hnl x hx; omega
      · rw [if_neg ek] at hx; have := hold k (by omega) x hx; omega
  · have hap : ∀ p, p < j → ∀ x, (v p).ownBlock = some x → vN.ownBlock ≠ some x := fun p hp x hx e => by have := hold p hp x hx; have := hnew x e; omega
    by_cases ek : k = j
    · rw [if_pos ek, if_neg (by omega)]
      cases e : vN.ownBlock with
      | none => exact Or.inl e
      | some x => exact Or.inr (fun e2 => hap m (by omega) x (e2.symm.trans e) e)
    · rw [if_neg ek]
      by_cases em : m = j
      · rw [if_pos em]
        cases e : (v k).ownBlock with
        | none => exact Or.inl e
        | some x => exact Or.inr (fun e2 => hap k (by omega) x e (e2.symm.trans e))
      · rw [if_neg em]; exact h.apart k m (by omega) (by omega) hne
end
end Go.Proofs.YtelickcfodcmaaaGreatDoor

namespace Go.Proofs.YtelickcfodcmaaaGreatDoor
open Go.RowKit

noncomputable def planL : Code := ((Tryz.f20.body.bind (loopAtC 9)).getD .skip)
set_option maxRecDepth 20000 in
set_option maxHeartbeats 8000000 in
theorem plan_rows {s0 s1 s2 s3 s4 s5 s6 s8 s9 s10 s11 s12 s13 s14 s15 s16 s17 s18 s19 s20 s21 s22 s23 s24 s25 s26 s27 s28 s32 s33 s34 s35 s36 s37 s38 s39 s40 s41 s42 s43 s44 s45 s46 s47 s48 s49 s50 s51 s52 s53 s54 s55 s56 s57 s58 s59 s60 s61 s62 s63 s64 : Value} (q : Nat) (a' : Option Addr) (np cap' : Nat) (f : Nat → TrainD) (W0 W : World) (K : Act → World → Prop) (Q : Exit → Act → World → Prop)
    (hK : ∀ (u9 u10 u11 u13 u31 u32 u33 u34 u35 u36 u37 u38 u39 u40 u41 u42 u43 u44 u45 u46 u47 u48 u49 u50 u51 u52 u53 u54 u55 u56 u57 u58 u59 u60 u61 u62 u63 : Value) (wr : World) (vS : Value) (v : Nat → Value) (P : Nat → RowD), (∀ j, j < np → (P j).n ≤ 10) → PutR q 0 wr P np vS v → Below W0.heap.size W0 wr → K ⟨(s0 :: s1 :: s2 :: s3 :: s4 :: s5 :: s6 :: .pointer (some ⟨q, 0, none⟩) :: s8 :: u9 :: u10 :: u11 :: s12 :: u13 :: s14 :: s15 :: s16 :: s17 :: s18 :: s19 :: s20 :: s21 :: s22 :: s23 :: s24 :: s25 :: s26 :: s27 :: s28 :: (.slice a' np cap') :: .int .i64 np :: u31 :: u32 :: u33 :: u34 :: u35 :: u36 :: u37 :: u38 :: u39 :: u40 :: u41 :: u42 :: u43 :: u44 :: u45 :: u46 :: u47 :: u48 :: u49 :: u50 :: u51 :: u52 :: u53 :: u54 :: u55 :: u56 :: u57 :: u58 :: u59 :: u60 :: u61 :: u62 :: u63 :: s64 :: []).toArray, []⟩ wr)
    (hnp : np ≤ 5) (h10 : ∀ j, j < np → (f j).nl ≤ 10) (hT : IsTrains 0 W0.heap.size W0 a' np f) (hq : q = W0.heap.size) (hB : Below W0.heap.size W0 W) (hc : W.cell? ⟨q, 0, none⟩ = some (.slice none 0 0)) (hz : W.frozen? ⟨q, 0, none⟩ = false) :
    Code.wp Tryz.prog (Code.loop planL) (Exit.inBlock 2 (Exit.then K Q)) ⟨(s0 :: s1 :: s2 :: s3 :: s4 :: s5 :: s6 :: .pointer (some ⟨q, 0, none⟩) :: s8 :: s9 :: s10 :: s11 :: s12 :: s13 :: s14 :: s15 :: s16 :: s17 :: s18 :: s19 :: s20 :: s21 :: s22 :: s23 :: s24 :: s25 :: s26 :: s27 :: s28 :: (.slice a' np cap') :: .int .i64 np :: .int .i64 0 :: s32 :: s33 :: s34 :: s35 :: s36 :: s37 :: s38 :: s39 :: s40 :: s41 :: s42 :: s43 :: s44 :: s45 :: s46 :: s47 :: s48 :: s49 :: s50 :: s51 :: s52 :: s53 :: s54 :: s55 :: s56 :: s57 :: s58 :: s59 :: s60 :: s61 :: s62 :: s63 :: s64 :: []).toArray, []⟩ W := by
  conv => arg 2; arg 1; whnf
  have hK' : Hid _ := hK
  have h10' : Hid _ := h10
  have hq' : Hid _ := hq
  clear hK h10 hq
  obtain ⟨i0, ii, iz0, iz1, iz2⟩ := info_parts Tryz.infoInt
  obtain ⟨k0, ki, kz0, kz1, kz2⟩ := info_parts Tryz.infoRow
  go_loopw [31] (fun c31 wr => ∃ (i : Nat) (vS : Value) (v : Nat → Value) (P : Nat → RowD), i ≤ np ∧ c31 = .int .i64 i ∧ (∀ j, j < i → (P j).n ≤ 10) ∧ PutR q 0 wr P i vS v ∧ Below W0.heap.size W0 wr) (fun c31 _ => np - (intOf c31).toNat)
  case atStart => exact ⟨0, _, fun _ => .slice none 0 0, fun _ => ⟨0, fun _ => 0⟩, Nat.zero_le _, rfl, fun j hj => absurd hj (Nat.not_lt_zero j), PutR.nil _ _ hc hz, hB⟩
  case round =>
    clear hc hz hB
    obtain ⟨i, vS, v, P, hi, rfl, hP10, hR, hB⟩ := hrel
    by_cases hlt : i < np
    · have hlt' : (i : Int) < (np : Int) := by omega
      have hi0 : (0 : Int) ≤ (i : Int) := by omega
      have hl10 := h10'.out i hlt
      obtain ⟨bt, ot, la, lc, rfl, _, hbt, t0, t1, t2, t3, t4, hlg, hml⟩ := hT i hlt
      have t0' := cellLater hB t0
      have t1' := cellLater hB t1
      have t2' := cellLater hB t2
      have t3' := cellLater hB t3
      have t4' := cellLater hB t4
      have hlg' : Hid _ := hlg
      have hR' : Hid _ := hR
      have hP10' : Hid _ := hP10
      clear hR hP10 hlg
      go_wp2
      clear t0' t1' t2' t3' t4' t0 t1 t2 t3 t4
      rename World => wo
      have hAt := b1 wo (.cells #[.int .i64 (f i).frm, .int .i64 (f i).ready, .int .i64 (f i).due, .int .i64 (f i).weight, .slice la (f i).nl lc] 72)
      go_loopw [10, 11, 40] (fun c10 c11 c40 wr => ∃ (m : Nat) (x : Int) (A : List Int), m ≤ (f i).nl ∧ c40 = .int .i64 m ∧ c10 = .int .i64 x ∧ A.length = m ∧ wr.ownsRow (wo.heap.size + 1) 3 1 c11 A.length (intCells A) ∧ Below wo.heap.size wo wr ∧ wo.heap.size < wr.heap.size) (fun _ _ c40 _ => (f i).nl - (intOf c40).toNat)
      case atStart => exact ⟨0, _, [], Nat.zero_le _, rfl, rfl, rfl, World.ownsRow_nil _ _ _ _, hAt, by simp⟩
      case round =>
        clear hAt
        obtain ⟨m, x, A, hm, rfl, rfl, hAl, hown, hBq, hsz⟩ := hrel
        by_cases hmlt : m < (f i).nl
        · have hmlt' : (m : Int) < ((f i).nl : Int) := by omega
          have hm0 : (0 : Int) ≤ (m : Int) := by omega
          obtain ⟨bl, ol, rfl, _, hbl, c0, c1, c2⟩ := hlg'.out m hmlt
          have hBB := Below.join hB (Nat.le_refl _) hBq
          replace c0 := cellLater hBB c0
          replace c1 := cellLater hBB c1
          replace c2 := cellLater hBB c2
          have hA1 := b1 wr (.cells #[.int .i64 ((f i).leg m).to, .int .i64 ((f i).leg m).run, .int .i64 ((f i).leg m).stay] 74)
          obtain ⟨_, l1, l2⟩ := new3 wr (.int .i64 ((f i).leg m).to) (.int .i64 ((f i).leg m).run) (.int .i64 ((f i).leg m).stay) 74
          clear hBB
          go_wp2_with (at_builtin; refine wpList_append_own_at _ rfl _ _ 23 rfl (wo.heap.size + 1) 3 i0 _ 1 8 Tryz.underlying23 ii iz0 iz1 iz2 rfl (by decide) u11 A.length (intCells A) rfl ?own ⟨_, 0, none⟩ 1 1 [.int .i64 (wrap64 (x + ((f i).leg m).stay))] rfl rfl ?lie one1 ?b1 ?b2 ?b3 ?_)
          case own => exact ownsRow_later (ownsRow_later hown hA1) (b1 _ _)
          case lie =>
            have h := cells1_lie (W := wr.alloc (.cells #[.int .i64 ((f i).leg m).to, .int .i64 ((f i).leg m).run, .int .i64 ((f i).leg m).stay] 74)) (x := .int .i64 (wrap64 (x + ((f i).leg m).stay))) (t := 3)
            rw [World.size_alloc] at h
            exact h
          case b1 => unfold maxLen; omega
          case b2 => omega
          case b3 => simp only [World.size_alloc]; omega
          intro v' W1 hown1 hgr1 _ _
          have hgr1' := hgr1
          have hB1 := below_grown (Below.join (Below.join hBq (Nat.le_refl _) hA1) (Nat.le_refl _) (b1 _ _)) hgr1 (by simp only [World.size_alloc]; omega) (fun j hj => by have := (hown.lt j hj).1; omega)
          have l1' : W1.cell? ⟨wr.heap.size, 1, none⟩ = some (.int .i64 ((f i).leg m).run) := (World.cell?_of_block (w' := W1) (a := ⟨wr.heap.size, 1, none⟩) (hgr1'.block _ (by simp only [World.size_alloc]; omega) (fun e => by have := (hown.lt _ e.symm).2; dsimp only at this; omega))).trans (cellLater (b1 _ _) l1)
          have hsz1 : wo.heap.size < W1.heap.size := by have := hgr1.size; simp only [World.size_alloc] at this; omega
          clear hgr1 hgr1' c0 c1 c2 l1 l2 hA1 hBq
          go_wp2
          go_roundw
          case rel => exact ⟨m + 1, _, A ++ [_], by omega, rfl, rfl, by rw [List.length_append, hAl]; rfl, by rw [intCells_snoc, List.length_append, hAl]; exact hown1, hB1, hsz1⟩
          case measure => simp only [intOf]; omega
        · obtain rfl : m = (f i).nl := by omega
          rw [hAl] at hown
          obtain ⟨ya, yc, rfl⟩ : ∃ ya yc, u11 = .slice ya (f i).nl yc := by
            rcases hown.2 with ⟨e, h0⟩ | ⟨g, cap, cur, e, _⟩
            · exact ⟨none, 0, by rw [e, h0]⟩
            · exact ⟨_, cap, e⟩
          have hRr := hR'.out
          have lq : q < wo.heap.size := ltCell hRr.c
          have hrl : rowCells ⟨(f i).nl, gI A⟩ = intCells A := by rw [← hAl]; exact rowCells_list A
          have hRw : wr.ownsRow (q + 1) 3 1 (.slice ya (f i).nl yc) (f i).nl (rowCells ⟨(f i).nl, gI A⟩) := by
            rw [hrl]; exact Joins.ownsRow_le hown (by omega)
          have hnew : ∀ y, (Value.slice ya (f i).nl yc).ownBlock = some y → wo.heap.size ≤ y := fun y hy => by have := (hown.lt y hy).1; omega
          have q0 := cellLater hBq hRr.c
          have hBA := Below.join hBq (Nat.le_refl _) (b1 wr (.cells #[.slice ya (f i).nl yc] 23))
          have hRo := ownsRow_later hRr.own hBA
          have hAl' : Hid _ := hAl
          have hRr' : Hid _ := hRr
          have hrl' : Hid _ := hrl
          clear hAl hRr hrl hown
          go_wp2_with (at_builtin; refine wpList_append_own_at _ rfl _ _ 28 rfl (q + 1) 23 k0 _ 1 24 Tryz.underlying28 ki kz0 kz1 kz2 rfl (by decide) vS i ((List.range i).map v) rfl hRo ⟨_, 0, none⟩ 1 1 [.slice ya (f i).nl yc] rfl rfl cells1_lie (fun x hx => by simp at hx; subst hx; rfl) ?b1 ?b2 ?b3 ?_)
          case b1 => unfold maxLen; omega
          case b2 => omega
          case b3 => simp only [World.size_alloc]; omega
          intro v2 W2 hown2 hgr2 _ hloc2
          obtain ⟨hst, m3, mz, _⟩ := hRr'.out.step hBq hRw hnew hown2 hgr2 (by rw [World.size_alloc]; exact hloc2)
          have hB2 : Below W0.heap.size W0 W2 := below_grown (Below.join hB (Nat.le_refl _) hBA) hgr2 (by have := hB.size; have := hBA.size; omega) (fun j hj => by have := (hRr'.out.own.lt j hj).1; have := hq'.out; omega)
          obtain ⟨gn, cn, rfl⟩ := Joins.ownsRow_form hown2 (by omega)
          have hst' : Hid _ := hst
          have lq2 : W0.heap.size ≤ q := by have := hq'.out; omega
          clear hst hown2 hgr2 hRw q0 hBA hRo hBq
          go_wp2
          go_roundw
          case rel => exact ⟨i + 1, _, _, _, by omega, rfl, fun j hj => by
            by_cases e : j = i
            · rw [if_pos e]; exact hl10
            · rw [if_neg e]; exact hP10'.out j (by omega), hst'.out, hB2.setCell (p := ⟨q, 0, none⟩) lq2 _⟩
          case measure => simp only [intOf]; omega
    · obtain rfl : i = np := by omega
      go_wp2
      apply hK'.out
      · exact hP10
      · exact hR
      · exact hB
end Go.Proofs.YtelickcfodcmaaaGreatDoor

namespace Go.Proofs.YtelickcfodcmaaaGreatDoor
open Go.RowKit

theorem trainsAt {w0 W : World} {b k : Nat} {a' : Option Addr} {np : Nat} {f : Nat → TrainD} (hT : IsTrains 0 w0.heap.size w0 a' np f) (hC : Cur w0 b k W) : IsTrains 0 W.heap.size W a' np f := (hT.below hC.base (Nat.le_refl _)).mono (Nat.le_refl _) hC.base.size
theorem intsAt {w0 W : World} {b k : Nat} {a : Option Addr} {n : Nat} {g : Nat → Int} (hI : IsInts 0 w0.heap.size w0 a n g) (hC : Cur w0 b k W) : IsInts 0 W.heap.size W a n g := (hI.below hC.base (Nat.le_refl _)).mono (Nat.le_refl _) hC.base.size
/-- a placed plan, as it lies -/
theorem placed_liesU {B0 : Nat} {W : World} {st : StP} {np : Nat} {v : Value} (h : IsPlaced B0 W st np v) : (∃ (c : Option Addr) (nc : Nat), v = .agg #[.int .i64 0, .int .i64 (st.at_ : Int), .slice c np nc] ∧ OwnP B0 W c np st.P ∧ ∀ j, j < np → (st.P j).n ≤ 10) ∨ (st.code ≠ 0 ∧ v = .agg #[.int .i64 st.code, .int .i64 (st.at_ : Int), .slice none 0 0]) := by
  obtain ⟨cv, rfl, h1, h2⟩ := h
  by_cases e : st.code = 0
  · obtain ⟨c, nc, rfl, ho, h10⟩ := h2 e
    exact Or.inl ⟨c, nc, by rw [e], ho, h10⟩
  · exact Or.inr ⟨e, by rw [h1 e]⟩
/-- how it stands within (*spec.l5Cur).plan -/
structure PlI (w0 w : World) (b k : Nat) (a : Option Addr) (len cap : Nat) (gap : Int) (a' : Option Addr) (np cap' : Nat) (W : World) : Prop where
  cur : Cur w0 b k W
  mid : Mid b (b + 1) w W
  x0 : W.cell? ⟨w.heap.size, 0, none⟩ = some (.slice a len cap)
  x1 : W.cell? ⟨w.heap.size, 1, none⟩ = some (.int .i64 gap)
  x2 : W.cell? ⟨w.heap.size, 2, none⟩ = some (.slice a' np cap')
  room : Room (w.heap.size + 1) 1 W
  lt : w.heap.size + 2 ≤ W.heap.size
section
variable {w0 w W W' : World} {b k k' : Nat} {a : Option Addr} {len cap : Nat} {gap : Int} {a' : Option Addr} {np cap' : Nat}
theorem cellMidT {j i : Nat} {v : Value} (hM : Mid b (b + 1) W W') (hj : b < j) (hc : W.cell? ⟨j, i, none⟩ = some v) : W'.cell? ⟨j, i, none⟩ = some v :=
  (World.cell?_of_block (w := W) (w' := W') (a := ⟨j, i, none⟩) (hM.above j hj (ltCell hc))).trans hc
theorem PlI.turn (h : PlI w0 w b k a len cap gap a' np cap' W) (hM : Mid b (b + 1) W W') (hC : Cur w0 b k' W') (hb : b < w.heap.size) : PlI w0 w b k' a len cap gap a' np cap' W' :=
  ⟨hC, h.mid.trans hM, cellMidT hM hb h.x0, cellMidT hM hb h.x1, cellMidT hM hb h.x2, h.room.keep hM, Nat.le_trans h.lt hM.below.size⟩
theorem PlI.more (h : PlI w0 w b k a len cap gap a' np cap' W) (hk : k ≤ k') : PlI w0 w b k' a len cap gap a' np cap' W := ⟨h.cur.more hk, h.mid, h.x0, h.x1, h.x2, h.room, h.lt⟩
theorem PlI.later (h : PlI w0 w b k a len cap gap a' np cap' W) (hB : Below W.heap.size W W') : PlI w0 w b k a len cap gap a' np cap' W' :=
  ⟨h.cur.later hB, h.mid.trans (Mid.ofBelow hB (Nat.le_of_lt h.cur.lt)), cellLater hB h.x0, cellLater hB h.x1, cellLater hB h.x2, h.room.below hB (by have := h.lt; omega), Nat.le_trans h.lt hB.size⟩
theorem PlI.set (h : PlI w0 w b k a len cap gap a' np cap' W) {p : Addr} (hp : w.heap.size + 2 ≤ p.block) (hb : b < w.heap.size) (x : Value) : PlI w0 w b k a len cap gap a' np cap' (W.setCell p x) := by
  have hs : ∀ j, j < w.heap.size + 2 → (W.setCell p x).heap[j]? = W.heap[j]? := fun j hj => Below.heap_setCell W p x j (by omega)
  have cc : ∀ j o u, j < w.heap.size + 2 → W.cell? ⟨j, o, none⟩ = some u → (W.setCell p x).cell? ⟨j, o, none⟩ = some u := fun j o u hj hu => (World.cell?_of_block (w := W) (a := ⟨j, o, none⟩) (hs j hj)).trans hu
  exact ⟨h.cur.set p (by omega) x, h.mid.setNew p (by omega) (by omega) x, cc _ _ _ (by omega) h.x0, cc _ _ _ (by omega) h.x1, cc _ _ _ (by omega) h.x2, h.room.set p x, by rw [World.size_setCell]; exact h.lt⟩
end
/-- what it answers -/
def PlanPost (w0 : World) (b k : Nat) (w : World) (e : Ending) (w' : World) : Prop := ∃ c n nc P, e = .returned (.agg #[.slice c n nc]) ∧ n ≤ 5 ∧ (∀ j, j < n → (P j).n ≤ 10) ∧ OwnP w.heap.size w' c n P ∧ Cur w0 b (k + 200) w' ∧ Mid b (b + 1) w w'
set_option maxRecDepth 20000 in
set_option maxHeartbeats 8000000 in
theorem plan_any (w0 : World) (b k : Nat) (a : Option Addr) (len cap : Nat) (g : Nat → Int) (gap : Int) (a' : Option Addr) (np cap' : Nat) (f : Nat → TrainD) (w : World) (hk : k ≤ 50000) (hC : Cur w0 b k w) (hl : len ≤ 1048576) (hnp : np ≤ 5) (hml : ∀ j, j < np → (f j).nl ≤ 1048576) (hn10 : legSum f np ≤ 10) (h10 : ∀ j, j < np → (f j).nl ≤ 10)
    (hI : IsInts 0 w0.heap.size w0 a len g) (hT : IsTrains 0 w0.heap.size w0 a' np f) :
    Calls Tryz.prog 20 #[.pointer (some ⟨b, 0, none⟩), .agg #[.slice a len cap, .int .i64 gap, .slice a' np cap']] w (PlanPost w0 b k w) := by
  have hbw : b < w.heap.size := hC.lt
  have hl' : np ≤ 1048576 := by omega
  have hA1 := b1 w (.cells #[.slice a len cap, .int .i64 gap, .slice a' np cap'] 26)
  obtain ⟨n0, n1, n2⟩ := new3 w (.slice a len cap) (.int .i64 gap) (.slice a' np cap') 26
  have hA2 := b1 (w.alloc (.cells #[.slice a len cap, .int .i64 gap, .slice a' np cap'] 26)) (.cells #[.slice none 0 0] 30)
  have hA := Below.join hA1 (Nat.le_refl _) hA2
  have hRm : Room (w.heap.size + 1) 1 ((w.alloc (.cells #[.slice a len cap, .int .i64 gap, .slice a' np cap'] 26)).alloc (.cells #[.slice none 0 0] 30)) := by
    have h := Room.lit (w.alloc (.cells #[.slice a len cap, .int .i64 gap, .slice a' np cap'] 26)) #[.slice none 0 0] 30 1 (Nat.le_refl _)
    rwa [World.size_alloc] at h
  have hp0 : PlI w0 w b k a len cap gap a' np cap' ((w.alloc (.cells #[.slice a len cap, .int .i64 gap, .slice a' np cap'] 26)).alloc (.cells #[.slice none 0 0] 30)) :=
    ⟨hC.later hA, Mid.ofBelow hA (Nat.le_of_lt hbw), cellLater hA2 n0, cellLater hA2 n1, cellLater hA2 n2, hRm, by simp⟩
  clear n0 n1 n2 hA1 hA2 hA hRm hC
  go_enter Tryz.func20, Tryz.ntmps20
  go_wp2
  go_loopw [5] (fun kk wr => ∃ i : Nat, i ≤ 5 ∧ kk = .int .i64 i ∧ PlI w0 w b (k + 40 * i) a len cap gap a' np cap' wr) (fun kk _ => 5 - (intOf kk).toNat)
  case atStart => exact ⟨0, Nat.zero_le _, rfl, hp0⟩
  case round =>
    clear hp0
    obtain ⟨i, hi, rfl, hp⟩ := hrel
    by_cases hlt : i < 5
    · have hlt' : (i : Int) < 5 := by omega
      have hpD := hp.later (Below.refl wr.heap.size wr).drew
      have x0 := hpD.x0
      have x1 := hpD.x1
      have x2 := hpD.x2
      go_wp2
      refine wp_region_held_drew (S := fun w' => w'.cell? ⟨w.heap.size, 0, none⟩ = some (.slice a len cap) ∧ w'.cell? ⟨w.heap.size, 1, none⟩ = some (.int .i64 gap) ∧ w'.cell? ⟨w.heap.size, 2, none⟩ = some (.slice a' np cap')) (by kernel_rfl) ⟨x0, x1, x2⟩ (fun hHeld => ?_)
      refine wpAnyH_take (i := 0) (oi := { dst := some 18, op := Go.Op.load 26 (Go.Operand.tmp 3), type := 26, pos := "l5_draw.go:161", after := #[], guard := none }) (v := ?vv1_0) rfl (by kernel_rfl) (by kernel_rfl) (by kernel_rfl) (fun _ _ _ h => h) (Or.inl ⟨by rfl, ?hy1_0⟩) (by assumption) ?rest1_0
      case hy1_0 =>
        intro w hSw
        (try dsimp only at hSw)
        go_simp
        (try with_reducible rfl)
      simp only [Act.put, List.setIfInBounds_toArray, List.set_cons_zero, List.set_cons_succ]
      refine wpAnyH_take (i := 1) (oi := { dst := some 19, op := Go.Op.move (Go.Operand.tmp 0), type := 52, pos := "l5_draw.go:161", after := #[], guard := none }) (v := ?vv2_1) rfl (by kernel_rfl) (by kernel_rfl) (by kernel_rfl) (fun _ _ _ h => h) (Or.inl ⟨by rfl, ?hy2_1⟩) (by assumption) ?rest2_1
      case hy2_1 =>
        intro w hSw
        (try dsimp only at hSw)
        go_simp
        (try with_reducible rfl)
      simp only [Act.put, List.setIfInBounds_toArray, List.set_cons_zero, List.set_cons_succ]
      refine wpAnyH_take (i := 2) (oi := { dst := some 20, op := Go.Op.load 26 (Go.Operand.tmp 3), type := 26, pos := "l5_draw.go:161", after := #[], guard := none }) (v := ?vv3_2) rfl (by kernel_rfl) (by kernel_rfl) (by kernel_rfl) (fun _ _ _ h => h) (Or.inl ⟨by rfl, ?hy3_2⟩) (by assumption) ?rest3_2
      case hy3_2 =>
        intro w hSw
        (try dsimp only at hSw)
        go_simp
        (try with_reducible rfl)
      simp only [Act.put, List.setIfInBounds_toArray, List.set_cons_zero, List.set_cons_succ]
      refine wpAnyH_ready (rs := [3, 5]) (by kernel_rfl) (by simp) ?_
      refine AllReadyH.cons (o := { dst := some 21, op := Go.Op.call { callee := Go.Callee.value (Go.Operand.func 55), args := #[Go.Operand.tmp 19, Go.Operand.tmp 20], argTypes := #[52, 26] }, type := 23, pos := "l5_draw.go:161", after := #[{ on := 1, ground := Go.Ground.data }, { on := 2, ground := Go.Ground.data }], guard := none }) rfl (fun K hK => ?_) (AllReadyH.cons (o := { dst := some 6, op := Go.Op.alloc 38, type := 0, pos := "l5_draw.go:161", after := #[], guard := none }) rfl (fun K hK => ?_) AllReadyH.nil)
      · go_simp
        go_at_call 55
        with_reducible refine (order_any w0 b _ a len cap gap a' np cap' f wr.drew (by omega) hpD.cur (trainsAt hT hpD.cur) hnp hn10).mono ?_
        rintro _ w5 ⟨v5, D5, rfl, hown5, hlen5, hC5, hM5⟩
        have hp5 := hpD.turn hM5 hC5 hbw
        obtain ⟨oa, oc, rfl, hO5⟩ := ownInts hown5
        have hlen5' : Hid _ := hlen5
        clear hlen5
        go_wp2_with fail
        refine hK.out _ _ ⟨hp5.x0, hp5.x1, hp5.x2⟩ (fun hHeld => ?_)
        clear hK K
        (try simp only [Act.put, List.setIfInBounds_toArray, List.set_cons_zero, List.set_cons_succ])
        refine wpAnyH_ready (rs := [4, 5]) (by kernel_rfl) (by simp) ?_
        refine AllReadyH.cons (o := { dst := some 22, op := Go.Op.call { callee := Go.Callee.value (Go.Operand.func 54), args := #[Go.Operand.tmp 18, Go.Operand.tmp 21], argTypes := #[26, 23] }, type := 38, pos := "l5_draw.go:161", after := #[{ on := 0, ground := Go.Ground.data }, { on := 3, ground := Go.Ground.data }, { on := 3, ground := Go.Ground.chain }], guard := none }) rfl (fun K hK => ?_) (AllReadyH.cons (o := { dst := some 6, op := Go.Op.alloc 38, type := 0, pos := "l5_draw.go:161", after := #[], guard := none }) rfl (fun K hK => ?_) AllReadyH.nil)
        · go_simp
          go_at_call 54
          with_reducible refine (specPlace_any a len cap g gap a' np cap' f oa D5.length oc (gI D5) w5 hl hl' hml (by rw [hlen5'.out]; omega) (intsAt hI hp5.cur) (trainsAt hT hp5.cur) (hO5.mono (Nat.zero_le _) (Nat.le_refl _))).mono ?_
          rintro _ w6 ⟨⟨v6, rfl, hPl6⟩, hB6⟩
          have hp6 := hp5.later hB6
          generalize placeSt len g gap np f D5.length (gI D5) = st6 at *
          have hleg5 : Hid _ := hn10
          rcases placed_liesU hPl6 with ⟨c6, nc6, rfl, hown6, hn6⟩ | ⟨hz6, rfl⟩
          · clear hPl6
            go_wp2_with fail
            refine hK.out _ _ ⟨hp6.x0, hp6.x1, hp6.x2⟩ (fun hHeld => ?_)
            clear hK K
            (try simp only [Act.put, List.setIfInBounds_toArray, List.set_cons_zero, List.set_cons_succ])
            have hA7 := b1 w6 (.cells #[.int .i64 0, .int .i64 0, .slice none 0 0] 38)
            have hp7 := hp6.later hA7
            refine wpAnyH_ready (rs := [5]) (by kernel_rfl) (by simp) ?_
            refine AllReadyH.cons (o := { dst := some 6, op := Go.Op.alloc 38, type := 0, pos := "l5_draw.go:161", after := #[], guard := none }) rfl (fun K hK => ?_) AllReadyH.nil
            go_simp
            refine hK.out _ _ ⟨hp7.x0, hp7.x1, hp7.x2⟩ (fun hHeld => ?_)
            clear hK K
            (try simp only [Act.put, List.setIfInBounds_toArray, List.set_cons_zero, List.set_cons_succ])
            have hRq : Room w6.heap.size 3 (w6.alloc (.cells #[.int .i64 0, .int .i64 0, .slice none 0 0] 38)) := Room.lit w6 _ _ 3 (Nat.le_refl _)
            obtain ⟨r0, rm0, rz0⟩ := hRq 0 (by omega)
            obtain ⟨r1, rm1, rz1⟩ := hRq 1 (by omega)
            obtain ⟨r2, rm2, rz2⟩ := hRq 2 (by omega)
            have hA8 := b1 w6 (.cells #[(.int .i64 0), (.int .i64 (st6.at_ : Int)), (.slice c6 np nc6)] 38)
            have hpV := hp6.later hA8
            have hO' := hown6.same (fun k _ hk => hA8.block k hk)
            refine wpAnyH_ready (rs := [6]) (by kernel_rfl) (by simp) ?_
            refine AllReadyH.cons (o := { dst := none, op := Go.Op.store 38 (Go.Operand.tmp 6) (Go.Operand.tmp 22), type := 0, pos := "l5_draw.go:161", after := #[{ on := 5, ground := Go.Ground.data }, { on := 4, ground := Go.Ground.data }, { on := 4, ground := Go.Ground.chain }, { on := 0, ground := Go.Ground.phase }, { on := 1, ground := Go.Ground.phase }, { on := 2, ground := Go.Ground.phase }, { on := 3, ground := Go.Ground.phase }, { on := 4, ground := Go.Ground.phase }, { on := 5, ground := Go.Ground.phase }], guard := none }) rfl (fun K hK => ?_) AllReadyH.nil
            go_simp
            refine hK.out _ _ ⟨hpV.x0, hpV.x1, hpV.x2⟩ (fun hHeld => ?_)
            clear hK K
            (try simp only [Act.put, List.setIfInBounds_toArray, List.set_cons_zero, List.set_cons_succ])
            refine wpAnyH_done (by kernel_rfl) ?_ _
            clear hRq r0 rm0 rz0 r1 rm1 rz1 r2 rm2 rz2 hA7 hp7 hA8
            have hB0 : w.heap.size + 2 ≤ w5.heap.size := hp5.lt
            obtain ⟨s0, sm0, sz0⟩ := hpV.room 0 (by omega)
            have hn6' : Hid _ := hn6
            clear hn6 hown6
            go_wp2
            refine bodyPost_ret (v := .agg #[.slice c6 np nc6]) (by simp [results, Tryz.results20, go_sem, sm0]) rfl ⟨c6, np, nc6, st6.P, rfl, hnp, hn6'.out, (hO'.set (p := ⟨w.heap.size + 1, 0, none⟩) (by dsimp only; omega)).low (by omega), (hpV.cur.set ⟨w.heap.size + 1, 0, none⟩ (by dsimp only; omega) _).more (by have := hleg5.out; omega), hpV.mid.setNew ⟨w.heap.size + 1, 0, none⟩ (by dsimp only; omega) (by omega) _⟩
          · clear hPl6
            go_wp2_with fail
            refine hK.out _ _ ⟨hp6.x0, hp6.x1, hp6.x2⟩ (fun hHeld => ?_)
            clear hK K
            (try simp only [Act.put, List.setIfInBounds_toArray, List.set_cons_zero, List.set_cons_succ])
            have hA7 := b1 w6 (.cells #[.int .i64 0, .int .i64 0, .slice none 0 0] 38)
            have hp7 := hp6.later hA7
            refine wpAnyH_ready (rs := [5]) (by kernel_rfl) (by simp) ?_
            refine AllReadyH.cons (o := { dst := some 6, op := Go.Op.alloc 38, type := 0, pos := "l5_draw.go:161", after := #[], guard := none }) rfl (fun K hK => ?_) AllReadyH.nil
            go_simp
            refine hK.out _ _ ⟨hp7.x0, hp7.x1, hp7.x2⟩ (fun hHeld => ?_)
            clear hK K
            (try simp only [Act.put, List.setIfInBounds_toArray, List.set_cons_zero, List.set_cons_succ])
            have hRq : Room w6.heap.size 3 (w6.alloc (.cells #[.int .i64 0, .int .i64 0, .slice none 0 0] 38)) := Room.lit w6 _ _ 3 (Nat.le_refl _)
            obtain ⟨r0, rm0, rz0⟩ := hRq 0 (by omega)
            obtain ⟨r1, rm1, rz1⟩ := hRq 1 (by omega)
            obtain ⟨r2, rm2, rz2⟩ := hRq 2 (by omega)
            have hA8 := b1 w6 (.cells #[(.int .i64 st6.code), (.int .i64 (st6.at_ : Int)), (.slice none 0 0)] 38)
            have hpV := hp6.later hA8
            refine wpAnyH_ready (rs := [6]) (by kernel_rfl) (by simp) ?_
            refine AllReadyH.cons (o := { dst := none, op := Go.Op.store 38 (Go.Operand.tmp 6) (Go.Operand.tmp 22), type := 0, pos := "l5_draw.go:161", after := #[{ on := 5, ground := Go.Ground.data }, { on := 4, ground := Go.Ground.data }, { on := 4, ground := Go.Ground.chain }, { on := 0, ground := Go.Ground.phase }, { on := 1, ground := Go.Ground.phase }, { on := 2, ground := Go.Ground.phase }, { on := 3, ground := Go.Ground.phase }, { on := 4, ground := Go.Ground.phase }, { on := 5, ground := Go.Ground.phase }], guard := none }) rfl (fun K hK => ?_) AllReadyH.nil
            go_simp
            refine hK.out _ _ ⟨hpV.x0, hpV.x1, hpV.x2⟩ (fun hHeld => ?_)
            clear hK K
            (try simp only [Act.put, List.setIfInBounds_toArray, List.set_cons_zero, List.set_cons_succ])
            refine wpAnyH_done (by kernel_rfl) ?_ _
            clear hRq r0 rm0 rz0 r1 rm1 rz1 r2 rm2 rz2 hA7 hp7 hA8
            have hB0 : w.heap.size + 2 ≤ w5.heap.size := hp5.lt
            have hzb : (st6.code == 0) = false := by simpa using hz6
            clear hz6
            go_wp2
            go_roundw
            case rel => exact ⟨i + 1, by omega, by go_num, hpV.more (by have := hleg5.out; omega)⟩
            case measure => simp [intOf]; omega
        · have hA7 := b1 w5 (.cells #[.int .i64 0, .int .i64 0, .slice none 0 0] 38)
          have hp7 := hp5.later hA7
          go_simp
          refine hK.out _ _ ⟨hp7.x0, hp7.x1, hp7.x2⟩ (fun hHeld => ?_)
          clear hK K
          (try simp only [Act.put, List.setIfInBounds_toArray, List.set_cons_zero, List.set_cons_succ])
          refine wpAnyH_ready (rs := [4]) (by kernel_rfl) (by simp) ?_
          refine AllReadyH.cons (o := { dst := some 22, op := Go.Op.call { callee := Go.Callee.value (Go.Operand.func 54), args := #[Go.Operand.tmp 18, Go.Operand.tmp 21], argTypes := #[26, 23] }, type := 38, pos := "l5_draw.go:161", after := #[{ on := 0, ground := Go.Ground.data }, { on := 3, ground := Go.Ground.data }, { on := 3, ground := Go.Ground.chain }], guard := none }) rfl (fun K hK => ?_) AllReadyH.nil
          go_simp
          go_at_call 54
          with_reducible refine (specPlace_any a len cap g gap a' np cap' f oa D5.length oc (gI D5) (w5.alloc (.cells #[.int .i64 0, .int .i64 0, .slice none 0 0] 38)) hl hl' hml (by rw [hlen5'.out]; omega) (intsAt hI hp7.cur) (trainsAt hT hp7.cur) ((hO5.grow hA7).mono (Nat.zero_le _) (Nat.le_refl _))).mono ?_
          rintro _ w6 ⟨⟨v6, rfl, hPl6⟩, hB6⟩
          have hp6 := hp7.later hB6
          generalize placeSt len g gap np f D5.length (gI D5) = st6 at *
          have hleg5 : Hid _ := hn10
          rcases placed_liesU hPl6 with ⟨c6, nc6, rfl, hown6, hn6⟩ | ⟨hz6, rfl⟩
          · clear hPl6
            go_wp2_with fail
            refine hK.out _ _ ⟨hp6.x0, hp6.x1, hp6.x2⟩ (fun hHeld => ?_)
            clear hK K
            (try simp only [Act.put, List.setIfInBounds_toArray, List.set_cons_zero, List.set_cons_succ])
            have hRq : Room w5.heap.size 3 w6 := (Room.lit w5 _ _ 3 (Nat.le_refl _)).below hB6 (by rw [World.size_alloc]; omega)
            have hqw : w.heap.size + 2 ≤ w5.heap.size := by have := hp5.lt; omega
            obtain ⟨r0, rm0, rz0⟩ := hRq 0 (by omega)
            obtain ⟨r1, rm1, rz1⟩ := hRq 1 (by omega)
            obtain ⟨r2, rm2, rz2⟩ := hRq 2 (by omega)
            have hpV := ((hp6.set (p := ⟨w5.heap.size, 0, none⟩) hqw hbw (.int .i64 0)).set (p := ⟨w5.heap.size, 1, none⟩) hqw hbw (.int .i64 (st6.at_ : Int))).set (p := ⟨w5.heap.size, 2, none⟩) hqw hbw (.slice c6 np nc6)
            have hql : w5.heap.size < _ := (show w5.heap.size < (w5.alloc (.cells #[.int .i64 0, .int .i64 0, .slice none 0 0] 38)).heap.size by rw [World.size_alloc]; omega)
            have hO' := ((hown6.set (p := ⟨w5.heap.size, 0, none⟩) (x := (.int .i64 0)) hql).set (p := ⟨w5.heap.size, 1, none⟩) (x := (.int .i64 (st6.at_ : Int))) hql).set (p := ⟨w5.heap.size, 2, none⟩) (x := (.slice c6 np nc6)) hql
            refine wpAnyH_ready (rs := [6]) (by kernel_rfl) (by simp) ?_
            refine AllReadyH.cons (o := { dst := none, op := Go.Op.store 38 (Go.Operand.tmp 6) (Go.Operand.tmp 22), type := 0, pos := "l5_draw.go:161", after := #[{ on := 5, ground := Go.Ground.data }, { on := 4, ground := Go.Ground.data }, { on := 4, ground := Go.Ground.chain }, { on := 0, ground := Go.Ground.phase }, { on := 1, ground := Go.Ground.phase }, { on := 2, ground := Go.Ground.phase }, { on := 3, ground := Go.Ground.phase }, { on := 4, ground := Go.Ground.phase }, { on := 5, ground := Go.Ground.phase }], guard := none }) rfl (fun K hK => ?_) AllReadyH.nil
            go_simp
            refine hK.out _ _ ⟨hpV.x0, hpV.x1, hpV.x2⟩ (fun hHeld => ?_)
            clear hK K
            (try simp only [Act.put, List.setIfInBounds_toArray, List.set_cons_zero, List.set_cons_succ])
            refine wpAnyH_done (by kernel_rfl) ?_ _
            have t0 : (((w6.setCell ⟨w5.heap.size, 0, none⟩ (.int .i64 0)).setCell ⟨w5.heap.size, 1, none⟩ (.int .i64 (st6.at_ : Int))).setCell ⟨w5.heap.size, 2, none⟩ (.slice c6 np nc6)).cell? ⟨w5.heap.size, 0, none⟩ = some (.int .i64 0) := (cell_set_ne (by omega)).trans ((cell_set_ne (by omega)).trans (World.cell?_setCell_same _ _ _ rm0))
            have t2 : (((w6.setCell ⟨w5.heap.size, 0, none⟩ (.int .i64 0)).setCell ⟨w5.heap.size, 1, none⟩ (.int .i64 (st6.at_ : Int))).setCell ⟨w5.heap.size, 2, none⟩ (.slice c6 np nc6)).cell? ⟨w5.heap.size, 2, none⟩ = some (.slice c6 np nc6) := World.cell?_setCell_same _ _ _ ((cell_set_ne (by omega)).trans ((cell_set_ne (by omega)).trans rm2))
            clear hRq r0 rm0 rz0 r1 rm1 rz1 r2 rm2 rz2
            obtain ⟨s0, sm0, sz0⟩ := hpV.room 0 (by omega)
            have hn6' : Hid _ := hn6
            clear hn6 hown6
            go_wp2
            refine bodyPost_ret (v := .agg #[.slice c6 np nc6]) (by simp [results, Tryz.results20, go_sem, sm0]) rfl ⟨c6, np, nc6, st6.P, rfl, hnp, hn6'.out, (hO'.set (p := ⟨w.heap.size + 1, 0, none⟩) (by dsimp only; omega)).low (by omega), (hpV.cur.set ⟨w.heap.size + 1, 0, none⟩ (by dsimp only; omega) _).more (by have := hleg5.out; omega), hpV.mid.setNew ⟨w.heap.size + 1, 0, none⟩ (by dsimp only; omega) (by omega) _⟩
          · clear hPl6
            go_wp2_with fail
            refine hK.out _ _ ⟨hp6.x0, hp6.x1, hp6.x2⟩ (fun hHeld => ?_)
            clear hK K
            (try simp only [Act.put, List.setIfInBounds_toArray, List.set_cons_zero, List.set_cons_succ])
            have hRq : Room w5.heap.size 3 w6 := (Room.lit w5 _ _ 3 (Nat.le_refl _)).below hB6 (by rw [World.size_alloc]; omega)
            have hqw : w.heap.size + 2 ≤ w5.heap.size := by have := hp5.lt; omega
            obtain ⟨r0, rm0, rz0⟩ := hRq 0 (by omega)
            obtain ⟨r1, rm1, rz1⟩ := hRq 1 (by omega)
            obtain ⟨r2, rm2, rz2⟩ := hRq 2 (by omega)
            have hpV := ((hp6.set (p := ⟨w5.heap.size, 0, none⟩) hqw hbw (.int .i64 st6.code)).set (p := ⟨w5.heap.size, 1, none⟩) hqw hbw (.int .i64 (st6.at_ : Int))).set (p := ⟨w5.heap.size, 2, none⟩) hqw hbw (.slice none 0 0)
            refine wpAnyH_ready (rs := [6]) (by kernel_rfl) (by simp) ?_
            refine AllReadyH.cons (o := { dst := none, op := Go.Op.store 38 (Go.Operand.tmp 6) (Go.Operand.tmp 22), type := 0, pos := "l5_draw.go:161", after := #[{ on := 5, ground := Go.Ground.data }, { on := 4, ground := Go.Ground.data }, { on := 4, ground := Go.Ground.chain }, { on := 0, ground := Go.Ground.phase }, { on := 1, ground := Go.Ground.phase }, { on := 2, ground := Go.Ground.phase }, { on := 3, ground := Go.Ground.phase }, { on := 4, ground := Go.Ground.phase }, { on := 5, ground := Go.Ground.phase }], guard := none }) rfl (fun K hK => ?_) AllReadyH.nil
            go_simp
            refine hK.out _ _ ⟨hpV.x0, hpV.x1, hpV.x2⟩ (fun hHeld => ?_)
            clear hK K
            (try simp only [Act.put, List.setIfInBounds_toArray, List.set_cons_zero, List.set_cons_succ])
            refine wpAnyH_done (by kernel_rfl) ?_ _
            have t0 : (((w6.setCell ⟨w5.heap.size, 0, none⟩ (.int .i64 st6.code)).setCell ⟨w5.heap.size, 1, none⟩ (.int .i64 (st6.at_ : Int))).setCell ⟨w5.heap.size, 2, none⟩ (.slice none 0 0)).cell? ⟨w5.heap.size, 0, none⟩ = some (.int .i64 st6.code) := (cell_set_ne (by omega)).trans ((cell_set_ne (by omega)).trans (World.cell?_setCell_same _ _ _ rm0))
            have t2 : (((w6.setCell ⟨w5.heap.size, 0, none⟩ (.int .i64 st6.code)).setCell ⟨w5.heap.size, 1, none⟩ (.int .i64 (st6.at_ : Int))).setCell ⟨w5.heap.size, 2, none⟩ (.slice none 0 0)).cell? ⟨w5.heap.size, 2, none⟩ = some (.slice none 0 0) := World.cell?_setCell_same _ _ _ ((cell_set_ne (by omega)).trans ((cell_set_ne (by omega)).trans rm2))
            clear hRq r0 rm0 rz0 r1 rm1 rz1 r2 rm2 rz2
            have hzb : (st6.code == 0) = false := by simpa using hz6
            clear hz6
            go_wp2
            go_roundw
            case rel => exact ⟨i + 1, by omega, by go_num, hpV.more (by have := hleg5.out; omega)⟩
            case measure => simp [intOf]; omega
      · have hA7 := b1 wr (.cells #[.int .i64 0, .int .i64 0, .slice none 0 0] 38)
        have hDr : Below (wr.alloc (.cells #[.int .i64 0, .int .i64 0, .slice none 0 0] 38)).heap.size (wr.alloc (.cells #[.int .i64 0, .int .i64 0, .slice none 0 0] 38)) (wr.alloc (.cells #[.int .i64 0, .int .i64 0, .slice none 0 0] 38)).drew := (Below.refl _ _).drew
        have hp7 := (hp.later hA7).later hDr
        have hsz7 : wr.heap.size < (wr.alloc (.cells #[.int .i64 0, .int .i64 0, .slice none 0 0] 38)).drew.heap.size := by show wr.heap.size < (wr.alloc (.cells #[.int .i64 0, .int .i64 0, .slice none 0 0] 38)).heap.size; rw [World.size_alloc]; omega
        have hR7 : Room wr.heap.size 3 (wr.alloc (.cells #[.int .i64 0, .int .i64 0, .slice none 0 0] 38)).drew := (Room.lit wr _ _ 3 (Nat.le_refl _)).below hDr (by rw [World.size_alloc]; omega)
        go_simp
        refine hK.out _ _ ⟨hp7.x0, hp7.x1, hp7.x2⟩ (fun hHeld => ?_)
        clear hK K
        (try simp only [Act.put, List.setIfInBounds_toArray, List.set_cons_zero, List.set_cons_succ])
        refine wpAnyH_ready (rs := [3]) (by kernel_rfl) (by simp) ?_
        refine AllReadyH.cons (o := { dst := some 21, op := Go.Op.call { callee := Go.Callee.value (Go.Operand.func 55), args := #[Go.Operand.tmp 19, Go.Operand.tmp 20], argTypes := #[52, 26] }, type := 23, pos := "l5_draw.go:161", after := #[{ on := 1, ground := Go.Ground.data }, { on := 2, ground := Go.Ground.data }], guard := none }) rfl (fun K hK => ?_) AllReadyH.nil
        go_simp
        go_at_call 55
        with_reducible refine (order_any w0 b _ a len cap gap a' np cap' f (wr.alloc (.cells #[.int .i64 0, .int .i64 0, .slice none 0 0] 38)).drew (by omega) hp7.cur (trainsAt hT hp7.cur) hnp hn10).mono ?_
        rintro _ w5 ⟨v5, D5, rfl, hown5, hlen5, hC5, hM5⟩
        have hp5 := hp7.turn hM5 hC5 hbw
        obtain ⟨oa, oc, rfl, hO5⟩ := ownInts hown5
        have hlen5' : Hid _ := hlen5
        clear hlen5
        go_wp2_with fail
        refine hK.out _ _ ⟨hp5.x0, hp5.x1, hp5.x2⟩ (fun hHeld => ?_)
        clear hK K
        (try simp only [Act.put, List.setIfInBounds_toArray, List.set_cons_zero, List.set_cons_succ])
        refine wpAnyH_ready (rs := [4]) (by kernel_rfl) (by simp) ?_
        refine AllReadyH.cons (o := { dst := some 22, op := Go.Op.call { callee := Go.Callee.value (Go.Operand.func 54), args := #[Go.Operand.tmp 18, Go.Operand.tmp 21], argTypes := #[26, 23] }, type := 38, pos := "l5_draw.go:161", after := #[{ on := 0, ground := Go.Ground.data }, { on := 3, ground := Go.Ground.data }, { on := 3, ground := Go.Ground.chain }], guard := none }) rfl (fun K hK => ?_) AllReadyH.nil
        go_simp
        go_at_call 54
        with_reducible refine (specPlace_any a len cap g gap a' np cap' f oa D5.length oc (gI D5) w5 hl hl' hml (by rw [hlen5'.out]; omega) (intsAt hI hp5.cur) (trainsAt hT hp5.cur) (hO5.mono (Nat.zero_le _) (Nat.le_refl _))).mono ?_
        rintro _ w6 ⟨⟨v6, rfl, hPl6⟩, hB6⟩
        have hp6 := hp5.later hB6
        generalize placeSt len g gap np f D5.length (gI D5) = st6 at *
        have hleg5 : Hid _ := hn10
        rcases placed_liesU hPl6 with ⟨c6, nc6, rfl, hown6, hn6⟩ | ⟨hz6, rfl⟩
        · clear hPl6
          go_wp2_with fail
          refine hK.out _ _ ⟨hp6.x0, hp6.x1, hp6.x2⟩ (fun hHeld => ?_)
          clear hK K
          (try simp only [Act.put, List.setIfInBounds_toArray, List.set_cons_zero, List.set_cons_succ])
          have hRq : Room wr.heap.size 3 w6 := (hR7.keep hM5).below hB6 (Nat.lt_of_lt_of_le hsz7 hM5.below.size)
          have hqw : w.heap.size + 2 ≤ wr.heap.size := by have := hp.lt; omega
          obtain ⟨r0, rm0, rz0⟩ := hRq 0 (by omega)
          obtain ⟨r1, rm1, rz1⟩ := hRq 1 (by omega)
          obtain ⟨r2, rm2, rz2⟩ := hRq 2 (by omega)
          have hpV := ((hp6.set (p := ⟨wr.heap.size, 0, none⟩) hqw hbw (.int .i64 0)).set (p := ⟨wr.heap.size, 1, none⟩) hqw hbw (.int .i64 (st6.at_ : Int))).set (p := ⟨wr.heap.size, 2, none⟩) hqw hbw (.slice c6 np nc6)
          have hql : wr.heap.size < _ := (show wr.heap.size < w5.heap.size from Nat.lt_of_lt_of_le hsz7 hM5.below.size)
          have hO' := ((hown6.set (p := ⟨wr.heap.size, 0, none⟩) (x := (.int .i64 0)) hql).set (p := ⟨wr.heap.size, 1, none⟩) (x := (.int .i64 (st6.at_ : Int))) hql).set (p := ⟨wr.heap.size, 2, none⟩) (x := (.slice c6 np nc6)) hql
          refine wpAnyH_ready (rs := [6]) (by kernel_rfl) (by simp) ?_
          refine AllReadyH.cons (o := { dst := none, op := Go.Op.store 38 (Go.Operand.tmp 6) (Go.Operand.tmp 22), type := 0, pos := "l5_draw.go:161", after := #[{ on := 5, ground := Go.Ground.data }, { on := 4, ground := Go.Ground.data }, { on := 4, ground := Go.Ground.chain }, { on := 0, ground := Go.Ground.phase }, { on := 1, ground := Go.Ground.phase }, { on := 2, ground := Go.Ground.phase }, { on := 3, ground := Go.Ground.phase }, { on := 4, ground := Go.Ground.phase }, { on := 5, ground := Go.Ground.phase }], guard := none }) rfl (fun K hK => ?_) AllReadyH.nil
          go_simp
          refine hK.out _ _ ⟨hpV.x0, hpV.x1, hpV.x2⟩ (fun hHeld => ?_)
          clear hK K
          (try simp only [Act.put, List.setIfInBounds_toArray, List.set_cons_zero, List.set_cons_succ])
          refine wpAnyH_done (by kernel_rfl) ?_ _
          have t0 : (((w6.setCell ⟨wr.heap.size, 0, none⟩ (.int .i64 0)).setCell ⟨wr.heap.size, 1, none⟩ (.int .i64 (st6.at_ : Int))).setCell ⟨wr.heap.size, 2, none⟩ (.slice c6 np nc6)).cell? ⟨wr.heap.size, 0, none⟩ = some (.int .i64 0) := (cell_set_ne (by omega)).trans ((cell_set_ne (by omega)).trans (World.cell?_setCell_same _ _ _ rm0))
          have t2 : (((w6.setCell ⟨wr.heap.size, 0, none⟩ (.int .i64 0)).setCell ⟨wr.heap.size, 1, none⟩ (.int .i64 (st6.at_ : Int))).setCell ⟨wr.heap.size, 2, none⟩ (.slice c6 np nc6)).cell? ⟨wr.heap.size, 2, none⟩ = some (.slice c6 np nc6) := World.cell?_setCell_same _ _ _ ((cell_set_ne (by omega)).trans ((cell_set_ne (by omega)).trans rm2))
          clear hRq r0 rm0 rz0 r1 rm1 rz1 r2 rm2 rz2
          obtain ⟨s0, sm0, sz0⟩ := hpV.room 0 (by omega)
          have hn6' : Hid _ := hn6
          clear hn6 hown6
          go_wp2
          refine bodyPost_ret (v := .agg #[.slice c6 np nc6]) (by simp [results, Tryz.results20, go_sem, sm0]) rfl ⟨c6, np, nc6, st6.P, rfl, hnp, hn6'.out, (hO'.set (p := ⟨w.heap.size + 1, 0, none⟩) (by dsimp only; omega)).low (by omega), (hpV.cur.set ⟨w.heap.size + 1, 0, none⟩ (by dsimp only; omega) _).more (by have := hleg5.out; omega), hpV.mid.setNew ⟨w.heap.size + 1, 0, none⟩ (by dsimp only; omega) (by omega) _⟩
        · clear hPl6
          go_wp2_with fail
          refine hK.out _ _ ⟨hp6.x0, hp6.x1, hp6.x2⟩ (fun hHeld => ?_)
          clear hK K
          (try simp only [Act.put, List.setIfInBounds_toArray, List.set_cons_zero, List.set_cons_succ])
          have hRq : Room wr.heap.size 3 w6 := (hR7.keep hM5).below hB6 (Nat.lt_of_lt_of_le hsz7 hM5.below.size)
          have hqw : w.heap.size + 2 ≤ wr.heap.size := by have := hp.lt; omega
          obtain ⟨r0, rm0, rz0⟩ := hRq 0 (by omega)
          obtain ⟨r1, rm1, rz1⟩ := hRq 1 (by omega)
          obtain ⟨r2, rm2, rz2⟩ := hRq 2 (by omega)
          have hpV := ((hp6.set (p := ⟨wr.heap.size, 0, none⟩) hqw hbw (.int .i64 st6.code)).set (p := ⟨wr.heap.size, 1, none⟩) hqw hbw (.int .i64 (st6.at_ : Int))).set (p := ⟨wr.heap.size, 2, none⟩) hqw hbw (.slice none 0 0)
          refine wpAnyH_ready (rs := [6]) (by kernel_rfl) (by simp) ?_
          refine AllReadyH.cons (o := { dst := none, op := Go.Op.store 38 (Go.Operand.tmp 6) (Go.Operand.tmp 22), type := 0, pos := "l5_draw.go:161", after := #[{ on := 5, ground := Go.Ground.data }, { on := 4, ground := Go.Ground.data }, { on := 4, ground := Go.Ground.chain }, { on := 0, ground := Go.Ground.phase }, { on := 1, ground := Go.Ground.phase }, { on := 2, ground := Go.Ground.phase }, { on := 3, ground := Go.Ground.phase }, { on := 4, ground := Go.Ground.phase }, { on := 5, ground := Go.Ground.phase }], guard := none }) rfl (fun K hK => ?_) AllReadyH.nil
          go_simp
          refine hK.out _ _ ⟨hpV.x0, hpV.x1, hpV.x2⟩ (fun hHeld => ?_)
          clear hK K
          (try simp only [Act.put, List.setIfInBounds_toArray, List.set_cons_zero, List.set_cons_succ])
          refine wpAnyH_done (by kernel_rfl) ?_ _
          have t0 : (((w6.setCell ⟨wr.heap.size, 0, none⟩ (.int .i64 st6.code)).setCell ⟨wr.heap.size, 1, none⟩ (.int .i64 (st6.at_ : Int))).setCell ⟨wr.heap.size, 2, none⟩ (.slice none 0 0)).cell? ⟨wr.heap.size, 0, none⟩ = some (.int .i64 st6.code) := (cell_set_ne (by omega)).trans ((cell_set_ne (by omega)).trans (World.cell?_setCell_same _ _ _ rm0))
          have t2 : (((w6.setCell ⟨wr.heap.size, 0, none⟩ (.int .i64 st6.code)).setCell ⟨wr.heap.size, 1, none⟩ (.int .i64 (st6.at_ : Int))).setCell ⟨wr.heap.size, 2, none⟩ (.slice none 0 0)).cell? ⟨wr.heap.size, 2, none⟩ = some (.slice none 0 0) := World.cell?_setCell_same _ _ _ ((cell_set_ne (by omega)).trans ((cell_set_ne (by omega)).trans rm2))
          clear hRq r0 rm0 rz0 r1 rm1 rz1 r2 rm2 rz2
          have hzb : (st6.code == 0) = false := by simpa using hz6
          clear hz6
          go_wp2
          go_roundw
          case rel => exact ⟨i + 1, by omega, by go_num, hpV.more (by have := hleg5.out; omega)⟩
          case measure => simp [intOf]; omega
    · obtain rfl : i = 5 := by omega
      have x2 := hp.x2
      have hA7 := b1 wr (.cells #[.slice none 0 0] 30)
      have x2' := (hp.later hA7).x2
      have hq7 : (wr.alloc (.cells #[.slice none 0 0] 30)).cell? ⟨wr.heap.size, 0, none⟩ = some (.slice none 0 0) := by simp
      have hz7 : (wr.alloc (.cells #[.slice none 0 0] 30)).frozen? ⟨wr.heap.size, 0, none⟩ = false := by simp
      go_wp2
      rename_i Kz az
      refine plan_rows wr.heap.size a' np cap' f wr _ Kz _ ?_ hnp h10 (trainsAt hT hp.cur) rfl hA7 hq7 hz7
      intro u9 u10 u11 u13 u31 u32 u33 u34 u35 u36 u37 u38 u39 u40 u41 u42 u43 u44 u45 u46 u47 u48 u49 u50 u51 u52 u53 u54 u55 u56 u57 u58 u59 u60 u61 u62 u63 wz vS v P hP10 hR hBz
      refine az _ _ ?_
      clear az
      obtain ⟨c, nc, rfl, hO⟩ := hR.ownP
      have hpE := hp.later hBz
      obtain ⟨s0, sm0, sz0⟩ := hpE.room 0 (by omega)
      have q0 := hR.c
      have hP10' : Hid _ := hP10
      have lt0 := hp.lt
      clear hP10 hR x2 x2' hq7 hz7
      go_wp2
      refine bodyPost_ret (v := .agg #[.slice c np nc]) (by simp [results, Tryz.results20, go_sem, sm0]) rfl ⟨c, np, nc, P, rfl, hnp, hP10'.out, (hO.set (p := ⟨w.heap.size + 1, 0, none⟩) (by dsimp only; omega)).low (by omega), (hpE.cur.set ⟨w.heap.size + 1, 0, none⟩ (by dsimp only; omega) _).more (by omega), hpE.mid.setNew ⟨w.heap.size + 1, 0, none⟩ (by dsimp only; omega) (by omega) _⟩
end Go.Proofs.YtelickcfodcmaaaGreatDoor

namespace Go.Proofs.YtelickcfodcmaaaGreatDoor
open Go.RowKit

/-- rows of a plan of its own, all of them below hi -/
def OwnU (hi B0 : Nat) (W : World) (c : Option Addr) (np : Nat) (P : Nat → RowD) : Prop := ∃ (gR : Nat) (v : Nat → Value), B0 ≤ gR ∧
  (∀ j, j < np → c = some ⟨gR, 0, none⟩ ∧ W.cell? ⟨gR, j, none⟩ = some (v j) ∧ W.frozen? ⟨gR, j, none⟩ = false) ∧ (∀ j, j < np → W.ownsRow B0 3 1 (v j) (P j).n (rowCells (P j))) ∧
  (∀ j k, j < np → k < np → j ≠ k → Apart (v j) (v k)) ∧ (∀ j, j < np → (v j).ownBlock ≠ some gR) ∧ ∀ j, j < np → gR < hi ∧ ∀ x, (v j).ownBlock = some x → x < hi
section
variable {hi B0 : Nat} {W : World} {c : Option Addr} {np : Nat} {P : Nat → RowD}
theorem OwnP.under (h : OwnP B0 W c np P) : OwnU W.heap.size B0 W c np P := by
  obtain ⟨gR, v, h1, h2, h3, h4, h5⟩ := h
  exact ⟨gR, v, h1, h2, h3, h4, h5, fun j hj => ⟨ltCell (h2 j hj).2.1, fun x hx => ((h3 j hj).lt x hx).2⟩⟩
theorem OwnU.own (h : OwnU hi B0 W c np P) : OwnP B0 W c np P := by
  obtain ⟨gR, v, h1, h2, h3, h4, h5, _⟩ := h
  exact ⟨gR, v, h1, h2, h3, h4, h5⟩
theorem OwnU.same (h : OwnU hi B0 W c np P) {W' : World} (hs : ∀ k, B0 ≤ k → k < hi → W'.heap[k]? = W.heap[k]?) : OwnU hi B0 W' c np P := by
  obtain ⟨gR, v, h1, h2, h3, h4, h5, h6⟩ := h
  refine ⟨gR, v, h1, fun j hj => ?_, fun j hj => ?_, h4, h5, h6⟩
  · obtain ⟨e, hc, hz⟩ := h2 j hj
    have hb := hs gR h1 (h6 j hj).1
    exact ⟨e, (World.cell?_of_block (w := W) (w' := W') (a := ⟨gR, j, none⟩) hb).trans hc, (World.frozen?_of_block (w := W) (w' := W') (a := ⟨gR, j, none⟩) hb).trans hz⟩
  · exact ownsRow_same (h3 j hj) (fun x hx => hs x ((h3 j hj).lt x hx).1 ((h6 j hj).2 x hx))
theorem OwnU.row (h : OwnU hi B0 W c np P) {i : Nat} (hi' : i < np) : ∃ gR ya cap, c = some ⟨gR, 0, none⟩ ∧ W.cell? ⟨gR, i, none⟩ = some (.slice ya (P i).n cap) := by
  obtain ⟨gR, v, h1, h2, h3, _⟩ := h
  obtain ⟨e, hc, _⟩ := h2 i hi'
  rcases (h3 i hi').2 with ⟨e0, h0⟩ | ⟨g, cp, cur, e0, _⟩
  · exact ⟨gR, none, 0, e, by rw [hc, e0, h0]⟩
  · exact ⟨gR, some ⟨g, 0, none⟩, cp, e, by rw [hc, e0]⟩
theorem OwnU.put (h : OwnU hi B0 W c np P) {i m : Nat} (hi' : i < np) (hm : m < (P i).n) :
    ∃ gR g cap, c = some ⟨gR, 0, none⟩ ∧ W.cell? ⟨gR, i, none⟩ = some (.slice (some ⟨g, 0, none⟩) (P i).n cap) ∧ W.cell? ⟨g, m, none⟩ = some (.int .i64 ((P i).s m)) ∧ W.frozen? ⟨g, m, none⟩ = false ∧ B0 ≤ g ∧ g < hi ∧ ∀ x, OwnU hi B0 (W.setCell ⟨g, m, none⟩ (.int .i64 x)) c np (putP P i m x) := by
  obtain ⟨gR, v, h1, h2, h3, h4, h5, h6⟩ := h
  obtain ⟨e, hc, hz⟩ := h2 i hi'
  have ho := h3 i hi'
  rcases ho.2 with ⟨e0, h0⟩ | ⟨g, cp, cur, e0, hb, hg, _⟩
  · omega
  · have ho' := ho
    rw [e0] at ho'
    have hgR : g ≠ gR := fun e2 => h5 i hi' (by rw [e0, ← e2]; rfl)
    refine ⟨gR, g, cp, e, by rw [hc, e0], by rw [ho'.cellAt m (by omega)]; exact rowCells_at _ _ hm, ho'.frozenAt m, (ho'.lt g rfl).1, (h6 i hi').2 g (by rw [e0]; rfl), fun x => ⟨gR, v, h1, fun j hj => ?_, fun j hj => ?_, h4, h5, h6⟩⟩
    · obtain ⟨e3, hc3, hz3⟩ := h2 j hj
      exact ⟨e3, (World.cell?_of_block (a := ⟨gR, j, none⟩) (Below.heap_setCell W ⟨g, m, none⟩ _ gR (fun e2 => hgR e2.symm))).trans hc3, (World.frozen?_setCell ..).trans hz3⟩
    · rw [putP_n]
      by_cases ej : j = i
      · subst ej
        rw [rowCells_put, e0]
        exact ownsRow_put ho' m _
      · rw [putP_other ej]
        refine ownsRow_setCell_other (h3 j hj) (fun e2 => ?_) _
        rcases h4 j i hj hi' ej with e3 | e3
        · rw [e3] at e2; cases e2
        · exact e3 (e2.trans (by rw [e0]; rfl))
end
/-- how it stands within spec.APlan: the plan's box at block q, its rows below it, the box of choices at block b below these -/
structure ShI (w : World) (b k q : Nat) (c : Option Addr) (n nc : Nat) (P : Nat → RowD) (W : World) : Prop where
  cur : Cur w b k W
  own : OwnU q (b + 1) W c n P
  cq : W.cell? ⟨q, 0, none⟩ = some (.slice c n nc)
  room : Room (w.heap.size + 1) 1 W
  bw : b = w.heap.size + 2
  bq : b < q
section
variable {w W W' : World} {b k k' q : Nat} {c : Option Addr} {n nc : Nat} {P : Nat → RowD}
theorem ShI.turn (h : ShI w b k q c n nc P W) (hM : Mid b (b + 1) W W') (hC : Cur w b k' W') : ShI w b k' q c n nc P W' :=
  ⟨hC, h.own.same (fun x hx hq => hM.above x (by omega) (Nat.lt_trans hq (ltCell h.cq))), (World.cell?_of_block (w := W) (w' := W') (a := ⟨q, 0, none⟩) (hM.above q (by have := h.bq; omega) (ltCell h.cq))).trans h.cq, h.room.keep hM, h.bw, h.bq⟩
theorem ShI.more (h : ShI w b k q c n nc P W) (hk : k ≤ k') : ShI w b k' q c n nc P W := ⟨h.cur.more hk, h.own, h.cq, h.room, h.bw, h.bq⟩
theorem ShI.put (h : ShI w b k q c n nc P W) {g m i : Nat} {x : Int} (hg : b + 1 ≤ g) (hgq : g < q) (ho : OwnU q (b + 1) (W.setCell ⟨g, m, none⟩ (.int .i64 x)) c n (putP P i m x)) : ShI w b k q c n nc (putP P i m x) (W.setCell ⟨g, m, none⟩ (.int .i64 x)) :=
  ⟨h.cur.set ⟨g, m, none⟩ (by dsimp only; omega) _, ho, (World.cell?_of_block (a := ⟨q, 0, none⟩) (Below.heap_setCell W ⟨g, m, none⟩ _ q (by dsimp only; omega))).trans h.cq, h.room.set ⟨g, m, none⟩ _, h.bw, h.bq⟩
end
/-- what it answers -/
def APlanPost (w : World) (e : Ending) (w' : World) : Prop := ∃ c n nc P, e = .returned (.agg #[.slice c n nc]) ∧ n ≤ 5 ∧ (∀ j, j < n → (P j).n ≤ 10) ∧ OwnP w.heap.size w' c n P ∧ Below w.heap.size w w'
set_option maxRecDepth 20000 in
set_option maxHeartbeats 8000000 in
theorem aplan_any (a : Option Addr) (len cap : Nat) (g : Nat → Int) (gap : Int) (a' : Option Addr) (np cap' : Nat) (f : Nat → TrainD) (ma : Option Addr) (ml mc : Nat) (w : World) (hml : ml ≤ 1048576) (hM : IsB w ma ml) (hl : len ≤ 1048576) (hnp : np ≤ 5) (h10 : ∀ j, j < np → (f j).nl ≤ 10) (hn10 : legSum f np ≤ 10)
    (hI : IsInts 0 w.heap.size w a len g) (hT : IsTrains 0 w.heap.size w a' np f) :
    Calls Tryz.prog 6 #[.agg #[.slice a len cap, .int .i64 gap, .slice a' np cap'], .slice ma ml mc] w (APlanPost w) := by
  have hA1 := b1 w (.cells #[.slice a len cap, .int .i64 gap, .slice a' np cap'] 26)
  obtain ⟨n0, n1, n2⟩ := new3 w (.slice a len cap) (.int .i64 gap) (.slice a' np cap') 26
  have hA2 := b1 (w.alloc (.cells #[.slice a len cap, .int .i64 gap, .slice a' np cap'] 26)) (.cells #[.slice none 0 0] 30)
  have hA := Below.join hA1 (Nat.le_refl _) hA2
  have hRm : Room (w.heap.size + 1) 1 ((w.alloc (.cells #[.slice a len cap, .int .i64 gap, .slice a' np cap'] 26)).alloc (.cells #[.slice none 0 0] 30)) := by
    have h := Room.lit (w.alloc (.cells #[.slice a len cap, .int .i64 gap, .slice a' np cap'] 26)) #[.slice none 0 0] 30 1 (Nat.le_refl _)
    rwa [World.size_alloc] at h
  have hC := Cur.new w _ (w.heap.size + 2) ma ml mc 55 hml hM hA (by rw [World.size_alloc, World.size_alloc])
  have hA3 := b1 ((w.alloc (.cells #[.slice a len cap, .int .i64 gap, .slice a' np cap'] 26)).alloc (.cells #[.slice none 0 0] 30)) (.cells #[.slice ma ml mc, .int .i64 0, .int .u64 0] 55)
  have hRm3 := hRm.below hA3 (by simp only [World.size_alloc]; omega)
  replace n0 := cellLater hA3 (cellLater hA2 n0)
  replace n1 := cellLater hA3 (cellLater hA2 n1)
  replace n2 := cellLater hA3 (cellLater hA2 n2)
  have hP := plan_any w (w.heap.size + 2) 0 a len cap g gap a' np cap' f _ (Nat.zero_le _) hC hl hnp (fun j hj => by have := h10 j hj; omega) hn10 h10 hI hT
  clear hA1 hA2 hA3 hA hRm hC
  go_enter Tryz.func6, Tryz.ntmps6
  go_wp2_with (go_at_call 20; fail)
  refine hP.mono ?_
  rintro _ w5 ⟨c, n, nc, P, rfl, hn5, hP10, hown, hC5, hM5⟩
  rw [World.size_alloc, World.size_alloc, World.size_alloc] at hown
  have hA5 := b1 w5 (.cells #[.slice c n nc] 30)
  have hs0 : ShI w (w.heap.size + 2) 200 w5.heap.size c n nc P (w5.alloc (.cells #[.slice c n nc] 30)) :=
    ⟨(hC5.later hA5).more (by omega), (hown.under).same (fun k _ hk => hA5.block k hk), by simp, (hRm3.keep hM5).below hA5 (by have := hC5.lt; omega), rfl, hC5.lt⟩
  have cq0 := hs0.cq
  clear hP hRm3 n0 n1 n2 hown hC5 hM5 hA5
  go_wp2
  go_loopw [19] (fun c19 wr => ∃ (i : Nat) (P : Nat → RowD), i ≤ n ∧ c19 = .int .i64 i ∧ (∀ j, j < n → (P j).n ≤ 10) ∧ ShI w (w.heap.size + 2) (200 + 4 * i) w5.heap.size c n nc P wr) (fun c19 _ => n - (intOf c19).toNat)
  case atStart => exact ⟨0, P, Nat.zero_le _, rfl, hP10, hs0⟩
  case round =>
    clear hP10 hs0 cq0
    obtain ⟨i, P, hi, rfl, hP10, hs⟩ := hrel
    by_cases hlt : i < n
    · have hlt' : (i : Int) < (n : Int) := by omega
      have hi0 : (0 : Int) ≤ (i : Int) := by omega
      go_wp2_with (go_at_call 21; fail)
      refine (pick_any w (w.heap.size + 2) _ 6 wr (by omega) (by omega) hs.cur).mono ?_
      rintro _ w6 ⟨x6, rfl, _, _, hC6, hM6⟩
      have hs6 := hs.turn hM6 hC6
      go_wp2_with (go_at_call 21; fail)
      refine (pick_any w (w.heap.size + 2) _ 2 w6 (by omega) (by omega) hs6.cur).mono ?_
      rintro _ w7 ⟨x7, rfl, _, _, hC7, hM7⟩
      have hs7 := hs6.turn hM7 hC7
      clear hs hs6 hC6 hM6 hC7 hM7
      obtain ⟨gR, ya, yc, rfl, r0⟩ := hs7.own.row hlt
      have q0 := hs7.cq
      have hPi := hP10 i hlt
      have hP10' : Hid _ := hP10
      clear hP10
      go_wp2
      clear r0 q0
      go_loopw [33] (fun c33 wq => ∃ (m : Nat) (P' : Nat → RowD), m ≤ (P i).n ∧ c33 = .int .i64 m ∧ (∀ j, (P' j).n = (P j).n) ∧ ShI w (w.heap.size + 2) (200 + 4 * i + 2 + 2) w5.heap.size (some ⟨gR, 0, none⟩) n nc P' wq) (fun c33 _ => (P i).n - (intOf c33).toNat)
      case atStart => exact ⟨0, P, Nat.zero_le _, rfl, fun _ => rfl, hs7⟩
      case round =>
        clear hs7
        obtain ⟨m, P', hm, rfl, hPn, hs⟩ := hrel
        by_cases hmlt : m < (P i).n
        · have hmlt' : (m : Int) < ((P i).n : Int) := by omega
          have hm0 : (0 : Int) ≤ (m : Int) := by omega
          obtain ⟨gR', g', cp', e', r0, r1, rz, hBg, hgq, hput⟩ := hs.own.put hlt (m := m) (by rw [hPn]; exact hmlt)
          cases e'
          rw [hPn] at r0
          have q0 := hs.cq
          have hPn' : Hid _ := hPn
          have hput' : Hid _ := hput
          clear hPn hput
          go_wp2
          go_roundw
          case rel => exact ⟨m + 1, putP P' i m _, by omega, rfl, fun j => by rw [putP_n]; exact hPn'.out j, hs.put hBg hgq (hput'.out _)⟩
          case measure => simp only [intOf]; omega
        · obtain rfl : m = (P i).n := by omega
          have hPn' : Hid _ := hPn
          clear hPn
          go_wp2
          go_roundw
          case rel => exact ⟨i + 1, P', by omega, rfl, fun j hj => by rw [hPn'.out j]; exact hP10'.out j hj, hs.more (by omega)⟩
          case measure => simp only [intOf]; omega
    · obtain rfl : i = n := by omega
      have q0 := hs.cq
      obtain ⟨s0, sm0, sz0⟩ := hs.room 0 (by omega)
      have hP10' : Hid _ := hP10
      clear hP10
      go_wp2
      refine bodyPost_ret (v := .agg #[.slice c i nc]) (by simp [results, Tryz.results6, go_sem, sm0]) rfl ⟨c, i, nc, P, rfl, hn5, hP10'.out, (hs.own.own.set (p := ⟨w.heap.size + 1, 0, none⟩) (by dsimp only; omega)).low (by omega), hs.cur.base.setCell (p := ⟨w.heap.size + 1, 0, none⟩) (by dsimp only; omega) _⟩
end Go.Proofs.YtelickcfodcmaaaGreatDoor
