/-
  The plan of an order: what a Place answers, and how that lies.
  The model's Check, at every argument; the laws' comparison of two clashes.
  The model's Place: what it answers.
  The tracks of a board: the last hold of a track says from when on it is free.
  The plan of an order has no clash.
  The run of an order, step by step.
  The model's search: what it comes to, plain, and how its record lies.
  The model's search: walked.
-/
import Derived.Test.YtnjaegeapcijpaaGreatDoorGF
import Derived.Test.YtnjaegeapcijpaaGreatDoorTo
import Derived.Test.YtnjaegeapcijpaaGreatDoorSpecD
import Derived.Test.YtnjaegeapcijpaaGreatDoorSpecW
import Derived.Test.YtnjaegeapcijpaaGreatDoorGE
import Derived.Test.YtnjaegeapcijpaaGreatDoorGC
import Derived.BigQuiet
namespace Go.Proofs.YtnjaegeapcijpaaGreatDoor
open Go.RowKit

theorem runP_stick {np : Nat} {g : Nat → Int} {f : Nat → TrainD} {gap : Int} {o : Nat → Int} {k : Nat} (h : (runP np g f gap o k).code ≠ 0) : ∀ d, runP np g f gap o (k + d) = runP np g f gap o k
  | 0 => rfl
  | d + 1 => by
    show stepP np g f gap (o (k + d)) (k + d) (runP np g f gap o (k + d)) = _
    rw [runP_stick h d]
    unfold stepP
    rw [if_pos h]
theorem runP_at {np : Nat} {g : Nat → Int} {f : Nat → TrainD} {gap : Int} {o : Nat → Int} : ∀ k, (runP np g f gap o k).code = 0 → (runP np g f gap o k).at_ = 0
  | 0, _ => rfl
  | k + 1, h => by
    have ih := runP_at (np := np) (g := g) (f := f) (gap := gap) (o := o) k
    have h' : (stepP np g f gap (o k) k (runP np g f gap o k)).code = 0 := h
    show (stepP np g f gap (o k) k (runP np g f gap o k)).at_ = 0
    unfold stepP at h' ⊢
    by_cases hc : (runP np g f gap o k).code ≠ 0
    · rw [if_pos hc] at h'; exact absurd h' hc
    · rw [if_neg hc] at h' ⊢
      by_cases hi : inB (o k) 0 ((np : Int) - 1) = true
      · rw [if_pos hi] at h' ⊢
        by_cases hn : (nextOf np g f (runP np g f gap o k).P gap (runP np g f gap o k).last (o k).toNat).1 = 0
        · rw [if_pos hn]
        · rw [if_neg hn] at h'; exact absurd h' hn
      · rw [if_neg hi] at h'; simp at h'
noncomputable def placeSt (nt : Nat) (g : Nat → Int) (gap : Int) (np : Nat) (f : Nat → TrainD) (no : Nat) (o : Nat → Int) : StP :=
  if (faultOf nt g gap np f).1 = 0 ∧ no ≤ 10 then
    (if (runP np g f gap o no).code ≠ 0 then runP np g f gap o no else if no = legSum f np then runP np g f gap o no else ⟨4, no, (runP np g f gap o no).P, (runP np g f gap o no).last⟩)
  else ⟨1, 0, fun _ => ⟨0, fun _ => 0⟩, 0⟩

theorem box31 (w : World) (a : Option Addr) (len cap : Nat) (gap : Int) (a' : Option Addr) (np cap' : Nat) (t t' : TypeId) :
    (((w.alloc (.cells #[.slice a len cap, .int .i64 gap, .slice a' np cap'] t)).alloc (.cells #[.int .i64 0, .int .i64 0, .slice none 0 0] t')).cell? ⟨w.heap.size, 0, none⟩ = some (.slice a len cap) ∧ ((w.alloc (.cells #[.slice a len cap, .int .i64 gap, .slice a' np cap'] t)).alloc (.cells #[.int .i64 0, .int .i64 0, .slice none 0 0] t')).cell? ⟨w.heap.size, 1, none⟩ = some (.int .i64 gap) ∧
    ((w.alloc (.cells #[.slice a len cap, .int .i64 gap, .slice a' np cap'] t)).alloc (.cells #[.int .i64 0, .int .i64 0, .slice none 0 0] t')).cell? ⟨w.heap.size, 2, none⟩ = some (.slice a' np cap')) ∧ Room (w.heap.size + 1) 3 ((w.alloc (.cells #[.slice a len cap, .int .i64 gap, .slice a' np cap'] t)).alloc (.cells #[.int .i64 0, .int .i64 0, .slice none 0 0] t')) := by
  obtain ⟨n0, n1, n2⟩ := new3 w (.slice a len cap) (.int .i64 gap) (.slice a' np cap') t
  refine ⟨⟨cellLater (b1 _ _) n0, cellLater (b1 _ _) n1, cellLater (b1 _ _) n2⟩, ?_⟩
  have h := Room.lit (w.alloc (.cells #[.slice a len cap, .int .i64 gap, .slice a' np cap'] t)) #[.int .i64 0, .int .i64 0, .slice none 0 0] t' 3 (Nat.le_refl _)
  rwa [World.size_alloc] at h
theorem below_set3 {n : Nat} {A W : World} (h : Below n A W) {b : Nat} (hb : n ≤ b) (x y z : Value) : Below n A (((W.setCell ⟨b, 0, none⟩ x).setCell ⟨b, 1, none⟩ y).setCell ⟨b, 2, none⟩ z) :=
  ((h.setCell (p := ⟨b, 0, none⟩) hb _).setCell (p := ⟨b, 1, none⟩) hb _).setCell (p := ⟨b, 2, none⟩) hb _

/-- the answer of a Place, as it lies: its plan in memory of its own, from B0 on -/
def IsPlaced (B0 : Nat) (W : World) (st : StP) (np : Nat) (v : Value) : Prop :=
  ∃ cv, v = .agg #[.int .i64 st.code, .int .i64 (st.at_ : Int), cv] ∧ (st.code ≠ 0 → cv = .slice none 0 0) ∧ (st.code = 0 → ∃ c nc, cv = .slice c np nc ∧ OwnP B0 W c np st.P ∧ ∀ j, j < np → (st.P j).n ≤ 10)
end Go.Proofs.YtnjaegeapcijpaaGreatDoor

namespace Go.Proofs.YtnjaegeapcijpaaGreatDoor
open Go.RowKit

/-- the model's Check -/
theorem specCheck_any (a : Option Addr) (len cap : Nat) (g : Nat → Int) (gap : Int) (a' : Option Addr) (len' cap' : Nat) (f : Nat → TrainD) (c : Option Addr) (np nc : Nat) (P : Nat → RowD) (w : World) (hl : len ≤ 1048576) (hl' : len' ≤ 1048576) (hml : ∀ j, j < len' → (f j).nl ≤ 1048576) (hp : np ≤ 1048576) (hmp : ∀ j, j < np → (P j).n ≤ 1048576)
    (hI : IsInts 0 w.heap.size w a len g) (hT : IsTrains 0 w.heap.size w a' len' f) (hP : IsRows 0 w.heap.size w c np P) :
    Calls Tryz.prog 8 #[.agg #[.slice a len cap, .int .i64 gap, .slice a' len' cap'], .agg #[.slice c np nc]] w fun e w' => e = .returned (.agg #[.int .i64 (clashOf len g gap len' f np P).1, .int .i64 (clashOf len g gap len' f np P).2.1, .int .i64 (clashOf len g gap len' f np P).2.2.1, .int .i64 (clashOf len g gap len' f np P).2.2.2]) ∧ Below w.heap.size w w' := by
  by_cases hF : (faultOf len g gap len' f).1 = 0
  · have hF0 := faultOf_snd hF
    cases hS : shapeB len' f np P
    · have e : clashOf len g gap len' f np P = (1, 0, 0, 0) := by unfold clashOf; rw [if_neg (by simp [hS])]
      rw [e]
      exact specCheck_shape a len cap g gap a' len' cap' f c np nc P w hl hl' hml hp hmp hI hT hP hF0 hS
    · exact specCheck_main a len cap g gap a' len' cap' f c np nc P w hl hl' hml hp hmp hI hT hP hF0 hS _ rfl
  · have e : clashOf len g gap len' f np P = (1, 0, 0, 0) := by unfold clashOf; rw [if_neg (by simp [hF])]
    rw [e]
    exact specCheck_line a len cap g gap a' len' cap' f c np nc w hl hl' hml hI hT hF
end Go.Proofs.YtnjaegeapcijpaaGreatDoor

namespace Go.Proofs.YtnjaegeapcijpaaGreatDoor
open Go.RowKit

set_option maxRecDepth 20000 in
set_option maxHeartbeats 4000000 in
theorem next_two (b : Nat) (a : Option Addr) (len cap : Nat) (gap : Int) (a' : Option Addr) (np cap' : Nat) (f : Nat → TrainD) (c : Option Addr) (nc : Nat) (P : Nat → RowD) (last : Int) (i : Nat) (w : World) (hR : RightL len np f) (hi : i < np) (hk : (P i).n = (f i).nl)
    (hL : L2 w b a len cap gap a' np cap' c nc last) (hT : IsTrains 0 w.heap.size w a' np f) (hP : IsRows 0 w.heap.size w c np P) :
    Calls Tryz.prog 81 #[.pointer (some ⟨b, 0, none⟩), .int .i64 i] w fun e w' => e = .returned (.int .i64 2) ∧ Below w.heap.size w w' := by
  have htr := hR.tr
  have hnl := (hR.train i hi).nl
  have hi' : (i : Int) < (np : Int) := by omega
  have hi0 : (0 : Int) ≤ (i : Int) := by omega
  have hkd : (((P i).n : Int) == ((f i).nl : Int)) = true := by simp; omega
  have x2 := hL.c2
  have x3 := hL.c3
  have lb := ltCell x3
  dsimp only at lb
  obtain ⟨bt, ot, la, lc, rfl, _, hbt, t0, t1, t2, t3, t4, hlg, _⟩ := hT i hi
  obtain ⟨bp, op, lp, lpc, rfl, _, hbp, p0, hin, _⟩ := hP i hi
  go_enter Tryz.func81, Tryz.ntmps81
  go_wp2
  go_ret
  exact ⟨rfl, b1 _ _⟩

set_option maxRecDepth 20000 in
set_option maxHeartbeats 4000000 in
theorem specPlace_line (a : Option Addr) (len cap : Nat) (g : Nat → Int) (gap : Int) (a' : Option Addr) (np cap' : Nat) (f : Nat → TrainD) (oa : Option Addr) (no oc : Nat) (o : Nat → Int) (w : World) (hl : len ≤ 1048576) (hl' : np ≤ 1048576) (hml : ∀ j, j < np → (f j).nl ≤ 1048576)
    (hI : IsInts 0 w.heap.size w a len g) (hT : IsTrains 0 w.heap.size w a' np f) (hno : no ≤ 1048576) (hbad : ¬ ((faultOf len g gap np f).1 = 0 ∧ no ≤ 10)) :
    Calls Tryz.prog 54 #[.agg #[.slice a len cap, .int .i64 gap, .slice a' np cap'], .slice oa no oc] w fun e w' => (∃ v, e = .returned v ∧ IsPlaced w.heap.size w' (placeSt len g gap np f no o) np v) ∧ Below w.heap.size w w' := by
  have hst : placeSt len g gap np f no o = ⟨1, 0, fun _ => ⟨0, fun _ => 0⟩, 0⟩ := by unfold placeSt; rw [if_neg hbad]
  rw [hst]
  have hN := b2 w (.cells #[.slice a len cap, .int .i64 gap, .slice a' np cap'] 26) (.cells #[.int .i64 0, .int .i64 0, .slice none 0 0] 38)
  obtain ⟨⟨y0, y1, y2⟩, hRm⟩ := box31 w a len cap gap a' np cap' 26 38
  have hend : ∀ w2, Below ((w.alloc (.cells #[.slice a len cap, .int .i64 gap, .slice a' np cap'] 26)).alloc (.cells #[.int .i64 0, .int .i64 0, .slice none 0 0] 38)).heap.size ((w.alloc (.cells #[.slice a len cap, .int .i64 gap, .slice a' np cap'] 26)).alloc (.cells #[.int .i64 0, .int .i64 0, .slice none 0 0] 38)) w2 → Room (w.heap.size + 1) 3 w2 := fun w2 h => hRm.below h (by simp)
  by_cases hF : (faultOf len g gap np f).1 = 0
  · have hn : ¬ no ≤ 10 := fun h => hbad ⟨hF, h⟩
    have hn' : (10 : Int) < (no : Int) := by omega
    have hok := l1ok_yes a len cap g gap a' np cap' f _ hl hl' hml (hI.grow hN) (hT.grow hN) (faultOf_snd hF)
    go_enter Tryz.func54, Tryz.ntmps54
    go_wp2_with (go_at_call 29; refine hok.mono ?_; rintro _ w2 ⟨rfl, hB2⟩; obtain ⟨v0, m0, z0⟩ := hend _ hB2 0 (by omega); obtain ⟨v1, m1, z1⟩ := hend _ hB2 1 (by omega); obtain ⟨v2, m2, z2⟩ := hend _ hB2 2 (by omega))
    refine bodyPost_ret (v := .agg #[.int .i64 1, .int .i64 0, .slice none 0 0]) (by simp [results, Tryz.results54, go_sem, m0, m1, m2]) rfl ⟨⟨_, rfl, .slice none 0 0, rfl, fun _ => rfl, fun h => by simp at h⟩, ?_⟩
    exact below_set3 (Below.join hN (Nat.le_refl _) hB2) (by omega) _ _ _
  · have hok := l1ok_no a len cap g gap a' np cap' f _ hl hl' hml (hI.grow hN) (hT.grow hN) hF
    go_enter Tryz.func54, Tryz.ntmps54
    go_wp2_with (go_at_call 29; refine hok.mono ?_; rintro _ w2 ⟨rfl, hB2⟩; obtain ⟨v0, m0, z0⟩ := hend _ hB2 0 (by omega); obtain ⟨v1, m1, z1⟩ := hend _ hB2 1 (by omega); obtain ⟨v2, m2, z2⟩ := hend _ hB2 2 (by omega))
    refine bodyPost_ret (v := .agg #[.int .i64 1, .int .i64 0, .slice none 0 0]) (by simp [results, Tryz.results54, go_sem, m0, m1, m2]) rfl ⟨⟨_, rfl, .slice none 0 0, rfl, fun _ => rfl, fun h => by simp at h⟩, ?_⟩
    exact below_set3 (Below.join hN (Nat.le_refl _) hB2) (by omega) _ _ _

set_option maxRecDepth 20000 in
set_option maxHeartbeats 8000000 in
theorem specPlace_main (a : Option Addr) (len cap : Nat) (g : Nat → Int) (gap : Int) (a' : Option Addr) (np cap' : Nat) (f : Nat → TrainD) (oa : Option Addr) (no oc : Nat) (o : Nat → Int) (w : World) (hl : len ≤ 1048576) (hl' : np ≤ 1048576) (hml : ∀ j, j < np → (f j).nl ≤ 1048576)
    (hI : IsInts 0 w.heap.size w a len g) (hT : IsTrains 0 w.heap.size w a' np f) (hO : IsInts 0 w.heap.size w oa no o) (hF : faultOf len g gap np f = (0, 0)) (hno : no ≤ 10) :
    Calls Tryz.prog 54 #[.agg #[.slice a len cap, .int .i64 gap, .slice a' np cap'], .slice oa no oc] w fun e w' => (∃ v, e = .returned v ∧ IsPlaced w.heap.size w' (placeSt len g gap np f no o) np v) ∧ Below w.heap.size w w' := by
  have hR := rightL_of hF
  have hG := rightG_of hF
  have htr := hR.tr
  have hst : placeSt len g gap np f no o = if (runP np g f gap o no).code ≠ 0 then runP np g f gap o no else if no = legSum f np then runP np g f gap o no else ⟨4, no, (runP np g f gap o no).P, (runP np g f gap o no).last⟩ := by unfold placeSt; rw [if_pos ⟨by rw [hF], hno⟩]
  have hst' : Hid _ := hst
  generalize placeSt len g gap np f no o = ST at hst'
  clear hst
  have hN := b2 w (.cells #[.slice a len cap, .int .i64 gap, .slice a' np cap'] 26) (.cells #[.int .i64 0, .int .i64 0, .slice none 0 0] 38)
  obtain ⟨⟨y0, y1, y2⟩, hRm⟩ := box31 w a len cap gap a' np cap' 26 38
  have hok := l1ok_yes a len cap g gap a' np cap' f _ hl hl' hml (hI.grow hN) (hT.grow hN) hF
  have hno' : ¬ ((10 : Int) < (no : Int)) := by omega
  have lR : w.heap.size + 1 < ((w.alloc (.cells #[.slice a len cap, .int .i64 gap, .slice a' np cap'] 26)).alloc (.cells #[.int .i64 0, .int .i64 0, .slice none 0 0] 38)).heap.size := by simp
  go_enter Tryz.func54, Tryz.ntmps54
  go_wp2_with (first | (go_at_call 29; refine hok.mono ?_; rintro _ w2 ⟨rfl, hB2⟩; have hBw := Below.join hN (Nat.le_refl _) hB2; replace y0 := cellLater hB2 y0; replace y1 := cellLater hB2 y1; replace y2 := cellLater hB2 y2; replace hRm := hRm.below hB2 lR; have lR2 := Nat.lt_of_lt_of_le lR hB2.size) | (go_at_call 48; refine (l2new_any a len cap gap a' np cap' w2 htr).mono ?_; rintro _ W ⟨⟨gR, c, nc, rfl, hLP⟩, hB3⟩; replace hBw := Below.join hBw (Nat.le_refl _) hB3; replace y0 := cellLater hB3 y0; replace y1 := cellLater hB3 y1; replace y2 := cellLater hB3 y2; replace hRm := hRm.below hB3 lR2))
  have hWs : w2.heap.size ≤ W.heap.size := hB3.size
  clear hok hB2 hN hB3 hno'
  go_loopw [22] (fun kk wr => ∃ (k : Nat) (v : Nat → Value), k ≤ no ∧ kk = .int .i64 k ∧ (runP np g f gap o k).code = 0 ∧ RunOk len np g f gap (runP np g f gap o k) k ∧ LP w2.heap.size wr (w2.heap.size + 1) gR a len cap gap a' np cap' c nc v (runP np g f gap o k).P (runP np g f gap o k).last ∧ Below w2.heap.size W wr) (fun kk _ => no - (intOf kk).toNat)
  case atStart => exact ⟨0, _, Nat.zero_le _, rfl, rfl, runP_zero np g f gap o len, hLP, Below.refl _ _⟩
  case round =>
    obtain ⟨k, v, hk, rfl, hcode, hrun, hL, hBr⟩ := hrel
    have hlw : w.heap.size ≤ w2.heap.size := by omega
    have hBwr : Below w.heap.size w wr := hBw.trans (hBr.mono hlw)
    have z0 := (hBr.cell (p := ⟨w.heap.size, 0, none⟩) (by dsimp only; omega)).trans y0
    have z1 := (hBr.cell (p := ⟨w.heap.size, 1, none⟩) (by dsimp only; omega)).trans y1
    have z2 := (hBr.cell (p := ⟨w.heap.size, 2, none⟩) (by dsimp only; omega)).trans y2
    have hIw := (hI.below hBwr (Nat.le_refl _)).mono (Nat.le_refl 0) hBwr.size
    have hTw := (hT.below hBwr (Nat.le_refl _)).mono (Nat.le_refl 0) hBwr.size
    have hRw := hRm.below hBr (by omega)
    by_cases hlt : k < no
    · have hk' : (k : Int) < (no : Int) := by omega
      have hk0 : (0 : Int) ≤ (k : Int) := by omega
      obtain ⟨bo, oo, rfl, _, _, qo⟩ := hO k hlt
      replace qo := (hBwr.cell (p := ⟨bo, oo + k, none⟩) (by dsimp only; omega)).trans qo
      have hrun1 : runP np g f gap o (k + 1) = stepP np g f gap (o k) k (runP np g f gap o k) := rfl
      have hstick : ∀ st : StP, runP np g f gap o (k + 1) = st → st.code ≠ 0 → runP np g f gap o no = st := fun st h1 h2 => by
        have := runP_stick (np := np) (g := g) (f := f) (gap := gap) (o := o) (k := k + 1) (by rw [h1]; exact h2) (no - (k + 1))
        rw [show k + 1 + (no - (k + 1)) = no by omega, h1] at this
        exact this
      have hrun1' : Hid _ := hrun1
      have hstick' : Hid _ := hstick
      clear hrun1 hstick
      generalize hst0 : runP np g f gap o k = st at hcode hrun hL
      rw [hst0] at hrun1'
      clear hst0
      generalize o k = ok at qo hrun1'
      obtain ⟨r0, rm0, rz0⟩ := hRw 0 (by omega)
      obtain ⟨r1, rm1, rz1⟩ := hRw 1 (by omega)
      obtain ⟨r2, rm2, rz2⟩ := hRw 2 (by omega)
      have hwn : IntKind.i64.wrap ((np : Int) - 1) = (np : Int) - 1 := by rw [IntKind.wrap_i64]; omega
      have hl1 := l1in_any ok 0 ((np : Int) - 1) wr
      cases hin : inB ok 0 ((np : Int) - 1)
      · have hstv : Hid (ST = ⟨2, k, st.P, st.last⟩) := by
          unfold Hid
          have h1 : runP np g f gap o (k + 1) = ⟨2, k, st.P, st.last⟩ := by rw [hrun1'.out]; unfold stepP; rw [if_neg (by simp [hcode]), if_neg (by simp [hin])]
          have h2 := hstick'.out _ h1 (by simp)
          rw [hst'.out, h2, if_pos (by simp)]
        rw [hin] at hl1
        clear hin hrun1' hstick'
        go_wp2_with (go_at_call 63; refine hl1.mono ?_; rintro _ _ ⟨rfl, rfl⟩)
        refine bodyPost_ret (v := .agg #[.int .i64 2, .int .i64 k, .slice none 0 0]) (by simp [results, Tryz.results54, go_sem, rm0, rm1, rm2]) rfl ⟨⟨_, rfl, .slice none 0 0, by rw [hstv.out], fun _ => rfl, fun h => by rw [hstv.out] at h; simp at h⟩, below_set3 hBwr (by omega) _ _ _⟩
      · rw [hin] at hl1
        obtain ⟨h00, h01⟩ := of_decide_eq_true hin
        obtain ⟨i, hi⟩ : ∃ i : Nat, ok = (i : Int) := ⟨ok.toNat, by omega⟩
        subst hi
        have hip : i < np := by omega
        have hpart := hrun.part
        have hn10 : ∀ j, j < np → (st.P j).n ≤ 10 := fun j hj => Nat.le_trans (hpart.le j hj) (hR.train j hj).nl
        clear h00 h01
        have hbad : ∀ cc : Int, cc ≠ 0 → nextOf np g f st.P gap st.last i = (cc, 0) → ST = ⟨cc, k, st.P, st.last⟩ := fun cc hc hn => by
          have h1 : runP np g f gap o (k + 1) = ⟨cc, k, st.P, st.last⟩ := by rw [hrun1'.out]; unfold stepP; rw [if_neg (by simp [hcode]), if_pos hin, Int.toNat_natCast, hn, if_neg (by simpa using hc)]
          have h2 := hstick'.out _ h1 hc
          rw [hst'.out, h2, if_pos hc]
        have hbad' : Hid _ := hbad
        have hin' : Hid _ := hin
        clear hbad hin hstick'
        by_cases hnn : (st.P i).n = (f i).nl
        · have hnx := next_two (w2.heap.size + 1) a len cap gap a' np cap' f c nc st.P st.last i wr hR hip hnn hL.l2 hTw (hL.rows hn10)
          have hstv : Hid (ST = ⟨2, k, st.P, st.last⟩) := hbad'.out 2 (by decide) (nextOf_two hnn)
          clear hbad' hrun1'
          go_wp2_with (first | (go_at_call 63; refine hl1.mono ?_; rintro _ _ ⟨rfl, rfl⟩) | (go_at_call 81; refine hnx.mono ?_; rintro _ w5 ⟨rfl, hB5⟩; replace rz0 := (hB5.frozen (ltCell rm0)).trans rz0; replace rz1 := (hB5.frozen (ltCell rm1)).trans rz1; replace rz2 := (hB5.frozen (ltCell rm2)).trans rz2; replace rm0 := cellLater hB5 rm0; replace rm1 := cellLater hB5 rm1; replace rm2 := cellLater hB5 rm2))
          refine bodyPost_ret (v := .agg #[.int .i64 2, .int .i64 k, .slice none 0 0]) (by simp [results, Tryz.results54, go_sem, rm0, rm1, rm2]) rfl ⟨⟨_, rfl, .slice none 0 0, by rw [hstv.out], fun _ => rfl, fun h => by rw [hstv.out] at h; simp at h⟩, below_set3 (Below.join hBwr (Nat.le_refl _) hB5) (by omega) _ _ _⟩
        · have hnlt : (st.P i).n < (f i).nl := by have := hpart.le i hip; omega
          have hlb := hrun.lb
          have hbase : w2.heap.size ≤ wr.heap.size := Nat.le_trans hWs hBr.size
          have hk10 : k < 10 := by omega
          have hnx := next_main w2.heap.size (w2.heap.size + 1) gR a len cap g gap a' np cap' f c nc v st.P st.last i wr hR hG hpart hip hnlt (by omega) hL hIw hTw
          go_wp2_with (first | (go_at_call 63; refine hl1.mono ?_; rintro _ _ ⟨rfl, rfl⟩) | (go_at_call 81; refine hnx.mono ?_; rintro _ w5 hpost; have hb5 : Below w2.heap.size _ w5 := (hpost.elim (fun h => h.2.2.mono hbase) (fun ⟨_, _, _, _, h, _⟩ => h)); replace rz0 := (hb5.frozen (p := ⟨w.heap.size + 1, 0, none⟩) lR2).trans rz0; replace rz1 := (hb5.frozen (p := ⟨w.heap.size + 1, 1, none⟩) lR2).trans rz1; replace rz2 := (hb5.frozen (p := ⟨w.heap.size + 1, 2, none⟩) lR2).trans rz2; replace rm0 := (hb5.cell (p := ⟨w.heap.size + 1, 0, none⟩) lR2).trans rm0; replace rm1 := (hb5.cell (p := ⟨w.heap.size + 1, 1, none⟩) lR2).trans rm1; replace rm2 := (hb5.cell (p := ⟨w.heap.size + 1, 2, none⟩) lR2).trans rm2; rcases hpost with (⟨hall, rfl, _⟩ | ⟨t, v', hfst, rfl, hB5, hL5⟩)))
          · have hstv : Hid (ST = ⟨3, k, st.P, st.last⟩) := hbad'.out 3 (by decide) (nextOf_three hnn hall)
            clear hbad' hrun1' hall
            go_wp2
            refine bodyPost_ret (v := .agg #[.int .i64 3, .int .i64 k, .slice none 0 0]) (by simp [results, Tryz.results54, go_sem, rm0, rm1, rm2]) rfl ⟨⟨_, rfl, .slice none 0 0, by rw [hstv.out], fun _ => rfl, fun h => by rw [hstv.out] at h; simp at h⟩, below_set3 (hBwr.trans (hb5.mono hlw)) (by omega) _ _ _⟩
          · have hstp := runOk_step hR hG hrun hcode hip hnlt hfst hk10
            have hr1 : Hid (runP np g f gap o (k + 1) = ⟨0, 0, moreP st.P i t, t⟩) := by unfold Hid; rw [hrun1'.out]; exact hstp.1
            have hr2 : Hid _ := hstp.2
            clear hbad' hrun1' hstp hfst
            go_wp2
            go_roundw
            case rel => exact ⟨k + 1, v', by omega, by go_num, by rw [hr1.out], by rw [hr1.out]; exact hr2.out, by rw [hr1.out]; exact hL5, hBr.trans hB5⟩
            case measure => simp [intOf]; omega
    · obtain rfl : k = no := by omega
      have hleg := l1legs_any a len cap gap a' np cap' f wr htr hml hTw
      have hsum := hrun.sum
      obtain ⟨r0, rm0, rz0⟩ := hRw 0 (by omega)
      obtain ⟨r1, rm1, rz1⟩ := hRw 1 (by omega)
      obtain ⟨r2, rm2, rz2⟩ := hRw 2 (by omega)
      have hlegb := hG.legs
      have hn10 : ∀ j, j < np → ((runP np g f gap o k).P j).n ≤ 10 := fun j hj => Nat.le_trans (hrun.part.le j hj) (hR.train j hj).nl
      have hrows := hL.ownP
      by_cases hkl : k = legSum f np
      · have hstv : Hid (ST = runP np g f gap o k) := by unfold Hid; rw [hst'.out, if_neg (by simp [hcode]), if_pos hkl]
        have hat : Hid ((runP np g f gap o k).at_ = 0) := runP_at k hcode
        have hkb : ((k : Int) != (legSum f np : Int)) = false := by simp; omega
        have hkl' : Hid _ := hkl
        generalize legSum f np = lg at hleg hkb hlegb hkl'
        clear hkl
        have x3 := hL.l2.c3
        go_wp2_with (go_at_call 49; refine hleg.mono ?_; rintro _ w5 ⟨rfl, hB5⟩; replace rz0 := (hB5.frozen (ltCell rm0)).trans rz0; replace rz1 := (hB5.frozen (ltCell rm1)).trans rz1; replace rz2 := (hB5.frozen (ltCell rm2)).trans rz2; replace rm0 := cellLater hB5 rm0; replace rm1 := cellLater hB5 rm1; replace rm2 := cellLater hB5 rm2; replace x3 := cellLater hB5 x3; replace hrows := hrows.later hB5)
        refine bodyPost_ret (v := .agg #[.int .i64 0, .int .i64 0, .slice c np nc]) (by simp [results, Tryz.results54, go_sem, rm0, rm1, rm2]) rfl ⟨⟨_, rfl, .slice c np nc, by rw [hstv.out, hcode, hat.out]; rfl, fun h => by rw [hstv.out] at h; exact absurd hcode h, fun _ => ⟨c, nc, rfl, ?_, ?_⟩⟩, below_set3 (Below.join hBwr (Nat.le_refl _) hB5) (by omega) _ _ _⟩
        · rw [hstv.out]
          exact (((hrows.set (by dsimp only; omega)).set (by dsimp only; omega)).set (by dsimp only; omega)).low (by omega)
        · rw [hstv.out]
          exact hn10
      · have hstv : Hid (ST = ⟨4, k, (runP np g f gap o k).P, (runP np g f gap o k).last⟩) := by unfold Hid; rw [hst'.out, if_neg (by simp [hcode]), if_neg hkl]
        have hkb : ((k : Int) != (legSum f np : Int)) = true := by simp; omega
        generalize legSum f np = lg at hleg hkb hlegb
        clear hkl
        go_wp2_with (go_at_call 49; refine hleg.mono ?_; rintro _ w5 ⟨rfl, hB5⟩; replace rz0 := (hB5.frozen (ltCell rm0)).trans rz0; replace rz1 := (hB5.frozen (ltCell rm1)).trans rz1; replace rz2 := (hB5.frozen (ltCell rm2)).trans rz2; replace rm0 := cellLater hB5 rm0; replace rm1 := cellLater hB5 rm1; replace rm2 := cellLater hB5 rm2)
        refine bodyPost_ret (v := .agg #[.int .i64 4, .int .i64 k, .slice none 0 0]) (by simp [results, Tryz.results54, go_sem, rm0, rm1, rm2]) rfl ⟨⟨_, rfl, .slice none 0 0, by rw [hstv.out], fun _ => rfl, fun h => by rw [hstv.out] at h; simp at h⟩, below_set3 (Below.join hBwr (Nat.le_refl _) hB5) (by omega) _ _ _⟩

theorem specPlace_any (a : Option Addr) (len cap : Nat) (g : Nat → Int) (gap : Int) (a' : Option Addr) (np cap' : Nat) (f : Nat → TrainD) (oa : Option Addr) (no oc : Nat) (o : Nat → Int) (w : World) (hl : len ≤ 1048576) (hl' : np ≤ 1048576) (hml : ∀ j, j < np → (f j).nl ≤ 1048576) (hno : no ≤ 1048576)
    (hI : IsInts 0 w.heap.size w a len g) (hT : IsTrains 0 w.heap.size w a' np f) (hO : IsInts 0 w.heap.size w oa no o) :
    Calls Tryz.prog 54 #[.agg #[.slice a len cap, .int .i64 gap, .slice a' np cap'], .slice oa no oc] w fun e w' => (∃ v, e = .returned v ∧ IsPlaced w.heap.size w' (placeSt len g gap np f no o) np v) ∧ Below w.heap.size w w' := by
  by_cases h : (faultOf len g gap np f).1 = 0 ∧ no ≤ 10
  · exact specPlace_main a len cap g gap a' np cap' f oa no oc o w hl hl' hml hI hT hO (faultOf_snd h.1) h.2
  · exact specPlace_line a len cap g gap a' np cap' f oa no oc o w hl hl' hml hI hT hno h
end Go.Proofs.YtnjaegeapcijpaaGreatDoor

namespace Go.Proofs.YtnjaegeapcijpaaGreatDoor
open Go.RowKit

def freeH (f : Nat → TrainD) (P : Nat → RowD) (gap : Int) (j m : Nat) : Int := (P j).s m + ((f j).leg m).run + gap
theorem trackRow_is {f : Nat → TrainD} {P : Nat → RowD} {gap : Int} {i k j : Nat} {a : Int} : ∀ n, a ≤ trackRow f P gap i k j a n ∧ (∀ m, m < n → j ≠ i → trackOf (f j) m = trackOf (f i) k → freeH f P gap j m ≤ trackRow f P gap i k j a n) ∧
    (trackRow f P gap i k j a n = a ∨ ∃ m, m < n ∧ j ≠ i ∧ trackOf (f j) m = trackOf (f i) k ∧ trackRow f P gap i k j a n = freeH f P gap j m)
  | 0 => ⟨Int.le_refl _, fun m hm => absurd hm (Nat.not_lt_zero m), Or.inl rfl⟩
  | n + 1 => by
    obtain ⟨h1, h2, h3⟩ := trackRow_is (f := f) (P := P) (gap := gap) (i := i) (k := k) (j := j) (a := a) n
    simp only [trackRow]
    by_cases hc : j ≠ i ∧ trackOf (f j) n = trackOf (f i) k ∧ trackRow f P gap i k j a n < (P j).s n + ((f j).leg n).run + gap
    · rw [if_pos hc]
      refine ⟨by omega, fun m hm hj ht => ?_, Or.inr ⟨n, by omega, hc.1, hc.2.1, rfl⟩⟩
      rcases Nat.lt_or_ge m n with h | h
      · have := h2 m h hj ht; omega
      · obtain rfl : m = n := by omega
        exact Int.le_refl _
    · rw [if_neg hc]
      refine ⟨h1, fun m hm hj ht => ?_, ?_⟩
      · rcases Nat.lt_or_ge m n with h | h
        · exact h2 m h hj ht
        · obtain rfl : m = n := by omega
          exact Int.not_lt.1 (fun h4 => hc ⟨hj, ht, h4⟩)
      · rcases h3 with h3 | ⟨m, hm, hr⟩
        · exact Or.inl h3
        · exact Or.inr ⟨m, by omega, hr⟩
theorem trackAll_is {f : Nat → TrainD} {P : Nat → RowD} {gap : Int} {i k : Nat} {a : Int} : ∀ n, a ≤ trackAll f P gap i k a n ∧ (∀ j, j < n → ∀ m, m < (P j).n → j ≠ i → trackOf (f j) m = trackOf (f i) k → freeH f P gap j m ≤ trackAll f P gap i k a n) ∧
    (trackAll f P gap i k a n = a ∨ ∃ j m, j < n ∧ m < (P j).n ∧ j ≠ i ∧ trackOf (f j) m = trackOf (f i) k ∧ trackAll f P gap i k a n = freeH f P gap j m)
  | 0 => ⟨Int.le_refl _, fun j hj => absurd hj (Nat.not_lt_zero j), Or.inl rfl⟩
  | n + 1 => by
    obtain ⟨h1, h2, h3⟩ := trackAll_is (f := f) (P := P) (gap := gap) (i := i) (k := k) (a := a) n
    obtain ⟨r1, r2, r3⟩ := trackRow_is (f := f) (P := P) (gap := gap) (i := i) (k := k) (j := n) (a := trackAll f P gap i k a n) (P n).n
    simp only [trackAll]
    refine ⟨by omega, fun j hj m hm hji ht => ?_, ?_⟩
    · rcases Nat.lt_or_ge j n with h | h
      · have := h2 j h m hm hji ht; omega
      · obtain rfl : j = n := by omega
        exact r2 m hm hji ht
    · rcases r3 with r3 | ⟨m, hm, hji, ht, e⟩
      · rcases h3 with h3 | ⟨j, m, hj, hr⟩
        · exact Or.inl (r3.trans h3)
        · exact Or.inr ⟨j, m, by omega, hr.1, hr.2.1, hr.2.2.1, r3.trans hr.2.2.2⟩
      · exact Or.inr ⟨n, m, by omega, hm, hji, ht, e⟩

/-- who had a track last, from when, and from when on it is free -/
structure TrackD where
  tr : Nat
  frm : Int
  free : Int
/-- a board's tracks, and that each train's legs follow each other -/
structure TI (np : Nat) (f : Nat → TrainD) (P : Nat → RowD) (gap : Int) (T : Int → TrackD) : Prop where
  at_ : ∀ x, ((∀ j, j < np → ∀ m, m < (P j).n → trackOf (f j) m ≠ x) ∧ T x = ⟨0, 0, 0⟩) ∨
    (∃ j0 m0, j0 < np ∧ m0 < (P j0).n ∧ trackOf (f j0) m0 = x ∧ T x = ⟨j0, (P j0).s m0, freeH f P gap j0 m0⟩ ∧ ∀ j, j < np → ∀ m, m < (P j).n → trackOf (f j) m = x → (j ≠ j0 → freeH f P gap j m ≤ (P j0).s m0) ∧ freeH f P gap j m ≤ freeH f P gap j0 m0)
  chain : ∀ j, j < np → ∀ m, m + 1 < (P j).n → (P j).s m + ((f j).leg m).run ≤ (P j).s (m + 1)
def trackFreeD (T : Int → TrackD) (i : Nat) (x : Int) : Int := if ((T x).tr : Int) = (i : Int) then 0 else (T x).free
theorem TI.low {np : Nat} {f : Nat → TrainD} {P : Nat → RowD} {gap last : Int} {T : Int → TrackD} (h : TI np f P gap T) (hQ : PartP np f P last) {i k : Nat} {lw : Int} (hlw : last ≤ lw) :
    trackAll f P gap i k lw np = maxZ lw (trackFreeD T i (trackOf (f i) k)) := by
  obtain ⟨h1, h2, h3⟩ := trackAll_is (f := f) (P := P) (gap := gap) (i := i) (k := k) (a := lw) np
  have hl0 := hQ.l0
  unfold maxZ trackFreeD
  rcases h.at_ (trackOf (f i) k) with ⟨hno, hT⟩ | ⟨j0, m0, hj0, hm0, ht0, hT, hall⟩
  · rw [hT]
    have e : trackAll f P gap i k lw np = lw := by
      rcases h3 with h3 | ⟨j, m, hj, hm, _, ht, _⟩
      · exact h3
      · exact absurd ht (hno j hj m hm)
    rw [e]
    dsimp only
    split <;> split at * <;> omega
  · rw [hT]
    dsimp only
    by_cases hji : j0 = i
    · subst hji
      rw [if_pos rfl, if_neg (by omega : ¬ lw < 0)]
      rcases h3 with h3 | ⟨j, m, hj, hm, hji, ht, e⟩
      · exact h3
      · have h4 := (hall j hj m hm ht).1 hji
        have h5 := (hQ.at0 j0 hj0 m0 hm0).2
        omega
    · have e0 : ¬ ((j0 : Int) = (i : Int)) := by omega
      rw [if_neg e0]
      have h4 := h2 j0 hj0 m0 hm0 hji ht0
      rcases h3 with h3 | ⟨j, m, hj, hm, hji', ht, e⟩
      · rw [h3] at h4 ⊢; rw [if_neg (by omega)]
      · have h5 := (hall j hj m hm ht).2
        split <;> omega

theorem moreP_old {P : Nat → RowD} {i : Nat} {t : Int} {j m : Nat} (h : m < (P j).n) : (moreP P i t j).s m = (P j).s m := by
  unfold moreP
  by_cases e : j = i
  · subst e; rw [if_pos rfl]; dsimp only; rw [if_neg (by omega)]
  · rw [if_neg e]
theorem moreP_new {P : Nat → RowD} {i : Nat} {t : Int} : (moreP P i t i).s (P i).n = t := by
  unfold moreP; rw [if_pos rfl]; dsimp only; rw [if_pos rfl]
theorem moreP_n {P : Nat → RowD} {i : Nat} {t : Int} : (moreP P i t i).n = (P i).n + 1 := by unfold moreP; rw [if_pos rfl]
theorem moreP_other {P : Nat → RowD} {i : Nat} {t : Int} {j : Nat} (h : j ≠ i) : moreP P i t j = P j := by unfold moreP; rw [if_neg h]
theorem moreP_legs {P : Nat → RowD} {i : Nat} {t : Int} {j m : Nat} (h : m < (moreP P i t j).n) : m < (P j).n ∨ (j = i ∧ m = (P i).n) := by
  by_cases e : j = i
  · subst e; rw [moreP_n] at h; omega
  · rw [moreP_other e] at h; exact Or.inl h
theorem freeH_old {f : Nat → TrainD} {P : Nat → RowD} {gap : Int} {i : Nat} {t : Int} {j m : Nat} (h : m < (P j).n) : freeH f (moreP P i t) gap j m = freeH f P gap j m := by unfold freeH; rw [moreP_old h]
theorem moreP_lt {P : Nat → RowD} {i : Nat} {t : Int} {j m : Nat} (h : m < (P j).n) : m < (moreP P i t j).n := by
  by_cases e : j = i
  · subst e; rw [moreP_n]; omega
  · rw [moreP_other e]; exact h

theorem chain_le {f : Nat → TrainD} {r : RowD} {j : Nat} (hr : ∀ m, m < r.n → 0 ≤ ((f j).leg m).run) (hc : ∀ m, m + 1 < r.n → r.s m + ((f j).leg m).run ≤ r.s (m + 1)) : ∀ d m, m + d < r.n → r.s m + ((f j).leg m).run ≤ r.s (m + d) + ((f j).leg (m + d)).run
  | 0, _, _ => Int.le_refl _
  | d + 1, m, h => by
    have h1 := chain_le hr hc d m (by omega)
    have h2 := hc (m + d) (by omega)
    have h3 := hr (m + d + 1) (by omega)
    rw [show m + (d + 1) = m + d + 1 by omega]
    omega
theorem TI.more {np : Nat} {f : Nat → TrainD} {P : Nat → RowD} {gap last : Int} {T : Int → TrackD} (h : TI np f P gap T) {i : Nat} (hi : i < np) {t : Int} (hg : 0 ≤ gap) (hrun : ∀ j, j < np → ∀ m, m < (f j).nl → 0 ≤ ((f j).leg m).run) (hk : (P i).n < (f i).nl)
    (hlow : lowOf np f P gap last i ≤ t) (hrd : ∀ k, (P i).n = k + 1 → (P i).s k + ((f i).leg k).run ≤ t) :
    TI np f (moreP P i t) gap (fun x => if x = trackOf (f i) (P i).n then ⟨i, t, t + ((f i).leg (P i).n).run + gap⟩ else T x) := by
  have hfn : freeH f (moreP P i t) gap i (P i).n = t + ((f i).leg (P i).n).run + gap := by unfold freeH; rw [moreP_new]
  have hrk := hrun i hi _ hk
  refine ⟨fun x => ?_, fun j hj m hm => ?_⟩
  · by_cases hx : x = trackOf (f i) (P i).n
    · rw [if_pos hx]
      refine Or.inr ⟨i, (P i).n, hi, by rw [moreP_n]; omega, hx.symm, by rw [moreP_new, hfn], fun j hj m hm ht => ?_⟩
      rcases moreP_legs hm with hold | ⟨rfl, rfl⟩
      · rw [freeH_old hold, moreP_new, hfn]
        by_cases hji : j = i
        · subst hji
          refine ⟨fun e => absurd rfl e, ?_⟩
          cases hn : (P j).n with
          | zero => omega
          | succ k =>
            have h1 := hrd k hn
            have h2 := chain_le (f := f) (r := P j) (j := j) (fun m hm => hrun j hj m (by omega)) (h.chain j hj) (k - m) m (by omega)
            rw [show m + (k - m) = k by omega] at h2
            rw [hn] at hrk
            unfold freeH
            omega
        · have h1 := (trackAll_is (f := f) (P := P) (gap := gap) (i := i) (k := (P i).n) (a := maxZ (readyOf f P i (P i).n) last) np).2.1 j hj m hold hji (ht.trans hx)
          have h2 : freeH f P gap j m ≤ t := Int.le_trans h1 hlow
          exact ⟨fun _ => h2, by omega⟩
      · exact ⟨fun e => absurd rfl e, Int.le_refl _⟩
    · rw [if_neg hx]
      rcases h.at_ x with ⟨hno, hT⟩ | ⟨j0, m0, hj0, hm0, ht0, hT, hall⟩
      · refine Or.inl ⟨fun j hj m hm => ?_, hT⟩
        rcases moreP_legs hm with hold | ⟨rfl, rfl⟩
        · exact hno j hj m hold
        · exact fun e => hx e.symm
      · refine Or.inr ⟨j0, m0, hj0, moreP_lt hm0, ht0, by rw [moreP_old hm0, freeH_old hm0]; exact hT, fun j hj m hm ht => ?_⟩
        rcases moreP_legs hm with hold | ⟨rfl, rfl⟩
        · rw [freeH_old hold, moreP_old hm0, freeH_old hm0]
          exact hall j hj m hold ht
        · exact absurd ht.symm hx
  · by_cases hji : j = i
    · subst hji
      rw [moreP_n] at hm
      rw [moreP_old (by omega)]
      by_cases hl : m + 1 < (P j).n
      · rw [moreP_old hl]; exact h.chain j hj m hl
      · have e : (P j).n = m + 1 := by omega
        have h1 := hrd m e
        have h2 := moreP_new (P := P) (i := j) (t := t)
        rw [e] at h2
        rw [h2]; exact h1
    · rw [moreP_other hji] at hm ⊢
      exact h.chain j hj m hm
end Go.Proofs.YtnjaegeapcijpaaGreatDoor

namespace Go.Proofs.YtnjaegeapcijpaaGreatDoor
open Go.RowKit

/-- this leg has begun, and its train has a track of station s at a time -/
def nowB (f : Nat → TrainD) (P : Nat → RowD) (s t : Int) (j m : Nat) : Bool := decide ((P j).s m ≤ t) && hereB f P s t j m
def nowRow (f : Nat → TrainD) (P : Nat → RowD) (s t : Int) (j : Nat) : Nat → Nat
  | 0 => 0
  | m + 1 => nowRow f P s t j m + (if nowB f P s t j m = true then 1 else 0)
def nowAll (f : Nat → TrainD) (P : Nat → RowD) (s t : Int) : Nat → Nat
  | 0 => 0
  | j + 1 => nowAll f P s t j + nowRow f P s t j (P j).n
theorem nowRow_le (f : Nat → TrainD) (P : Nat → RowD) (s t : Int) (j : Nat) : ∀ m, nowRow f P s t j m ≤ thereRow f P s t j m
  | 0 => Nat.le_refl _
  | m + 1 => by
    have h0 := nowRow_le f P s t j m
    have h1 : nowB f P s t j m = true → hereB f P s t j m = true := by unfold nowB; rw [Bool.and_eq_true]; exact fun h => h.2
    simp only [nowRow, thereRow]
    by_cases e : nowB f P s t j m = true
    · rw [if_pos e, if_pos (h1 e)]; omega
    · rw [if_neg e]; omega
theorem nowAll_le (f : Nat → TrainD) (P : Nat → RowD) (s t : Int) : ∀ n, nowAll f P s t n ≤ thereAll f P s t n
  | 0 => Nat.le_refl _
  | n + 1 => by
    have h0 := nowAll_le f P s t n
    have h1 := nowRow_le f P s t n (P n).n
    simp only [nowAll, thereAll]; omega
theorem nowRow_same {f : Nat → TrainD} {P Q : Nat → RowD} {s t : Int} {j : Nat} : ∀ n, (∀ m, m < n → nowB f Q s t j m = nowB f P s t j m) → nowRow f Q s t j n = nowRow f P s t j n
  | 0, _ => rfl
  | n + 1, h => by simp only [nowRow]; rw [nowRow_same n (fun m hm => h m (by omega)), h n (by omega)]
theorem nowB_other {f : Nat → TrainD} {P : Nat → RowD} {i : Nat} {t s t' : Int} {j m : Nat} (h : j ≠ i) : nowB f (moreP P i t) s t' j m = nowB f P s t' j m := by
  unfold nowB hereB leaveO
  rw [moreP_other h]
theorem nowB_old {f : Nat → TrainD} {P : Nat → RowD} {i : Nat} {t s t' : Int} {m : Nat} (hk : (P i).n < (f i).nl) (hm : m < (P i).n) (ht : t' ≤ t) : nowB f (moreP P i t) s t' i m = nowB f P s t' i m := by
  unfold nowB hereB leaveO
  rw [moreP_old hm, moreP_n]
  by_cases e : m + 1 < (P i).n
  · rw [if_pos e, if_pos (by omega), moreP_old e]
  · have e2 : m + 1 = (P i).n := by omega
    have e3 : (moreP P i t i).s (m + 1) = t := by rw [e2]; exact moreP_new
    rw [if_neg e, if_pos (by omega), if_pos (by omega), e3]
    simp [ht]
theorem nowB_new {f : Nat → TrainD} {P : Nat → RowD} {i : Nat} {t s t' : Int} (h : t' < t ∨ stOf f P i ≠ s) : nowB f (moreP P i t) s t' i (P i).n = false := by
  unfold nowB hereB
  rw [moreP_new]
  rcases h with h | h
  · rw [decide_eq_false (by omega)]; rfl
  · have : ((f i).leg (P i).n).to ≠ s := h
    simp [this]
theorem nowRow_more {f : Nat → TrainD} {P : Nat → RowD} {i : Nat} {t s t' : Int} (hk : (P i).n < (f i).nl) (ht : t' ≤ t) : nowRow f (moreP P i t) s t' i ((P i).n + 1) = nowRow f P s t' i (P i).n + (if nowB f (moreP P i t) s t' i (P i).n = true then 1 else 0) := by
  simp only [nowRow]
  rw [nowRow_same (P := P) (P i).n (fun m hm => nowB_old hk hm ht)]
theorem nowAll_more {f : Nat → TrainD} {P : Nat → RowD} {i : Nat} {t s t' : Int} (hk : (P i).n < (f i).nl) (ht : t' ≤ t) : ∀ n, nowAll f (moreP P i t) s t' n = nowAll f P s t' n + (if i < n ∧ nowB f (moreP P i t) s t' i (P i).n = true then 1 else 0)
  | 0 => by simp [nowAll]
  | n + 1 => by
    simp only [nowAll]
    rw [nowAll_more hk ht n]
    by_cases e : n = i
    · subst e
      rw [moreP_n, nowRow_more hk ht, if_neg (by omega)]
      by_cases hb : nowB f (moreP P n t) s t' n (P n).n = true
      · rw [if_pos hb, if_pos ⟨by omega, hb⟩]; omega
      · rw [if_neg hb, if_neg (by simp [hb])]; omega
    · rw [moreP_other e, nowRow_same (P := P) (P n).n (fun m _ => nowB_other e)]
      by_cases h2 : i < n ∧ nowB f (moreP P i t) s t' i (P i).n = true
      · rw [if_pos h2, if_pos ⟨by omega, h2.2⟩]; omega
      · rw [if_neg h2, if_neg (fun h3 => h2 ⟨by omega, h3.2⟩)]; omega
/-- no leg of those placed clashes -/
structure NoC (np : Nat) (g : Nat → Int) (gap : Int) (f : Nat → TrainD) (P : Nat → RowD) : Prop where
  ready : ∀ j, j < np → ∀ m, m < (P j).n → readyOf f P j m ≤ (P j).s m
  track : ∀ i, i < np → ∀ k, k < (P i).n → ∀ j, j < np → ∀ m, m < (P j).n → i ≠ j → trackOf (f i) k = trackOf (f j) m → freeH f P gap j m ≤ (P i).s k ∨ freeH f P gap i k ≤ (P j).s m
  room : ∀ i, i < np → ∀ k, k < (P i).n → (nowAll f P ((f i).leg k).to ((P i).s k) np : Int) ≤ g ((f i).leg k).to.toNat
theorem NoC.start (np : Nat) (g : Nat → Int) (gap : Int) (f : Nat → TrainD) : NoC np g gap f (fun _ => ⟨0, fun _ => 0⟩) :=
  ⟨fun _ _ _ hm => absurd hm (Nat.not_lt_zero _), fun _ _ _ hk => absurd hk (Nat.not_lt_zero _), fun _ _ _ hk => absurd hk (Nat.not_lt_zero _)⟩
theorem readyOf_more {f : Nat → TrainD} {P : Nat → RowD} {i : Nat} {t : Int} {j m : Nat} (h : m ≤ (P j).n) : readyOf f (moreP P i t) j m = readyOf f P j m := by
  cases m with
  | zero => rfl
  | succ m => simp only [readyOf]; rw [moreP_old (by omega)]
theorem NoC.more {np : Nat} {g : Nat → Int} {gap : Int} {f : Nat → TrainD} {P : Nat → RowD} {last t : Int} (h : NoC np g gap f P) (hQ : PartP np f P last) {i : Nat} (hi : i < np) (hk : (P i).n < (f i).nl) (hf : IsFirst np g f P (stOf f P i) (lowOf np f P gap last i) t) : NoC np g gap f (moreP P i t) := by
  obtain ⟨l1, l2, _⟩ := trackAll_is (f := f) (P := P) (gap := gap) (i := i) (k := (P i).n) (a := maxZ (readyOf f P i (P i).n) last) np
  have hlow : trackAll f P gap i (P i).n (maxZ (readyOf f P i (P i).n) last) np ≤ t := hf.1
  have hmx : readyOf f P i (P i).n ≤ maxZ (readyOf f P i (P i).n) last ∧ last ≤ maxZ (readyOf f P i (P i).n) last := by unfold maxZ; split <;> omega
  have hfull : (thereAll f P (stOf f P i) t np : Int) < g (stOf f P i).toNat := by
    have := hf.2.1; unfold fullAt at this; omega
  have hnow : ((nowAll f P (stOf f P i) t np : Nat) : Int) + 1 ≤ g (stOf f P i).toNat := by
    have := nowAll_le f P (stOf f P i) t np; omega
  refine ⟨fun j hj m hm => ?_, fun a ha k hka j hj m hm hne htr => ?_, fun j hj m hm => ?_⟩
  · rcases moreP_legs hm with h1 | ⟨rfl, rfl⟩
    · rw [readyOf_more (by omega), moreP_old h1]; exact h.ready j hj m h1
    · rw [readyOf_more (Nat.le_refl _), moreP_new]; omega
  · rcases moreP_legs hka with h1 | ⟨rfl, rfl⟩
    · rcases moreP_legs hm with h2 | ⟨rfl, rfl⟩
      · rw [freeH_old h1, freeH_old h2, moreP_old h1, moreP_old h2]; exact h.track a ha k h1 j hj m h2 hne htr
      · rw [freeH_old h1, moreP_new]
        have := l2 a ha k h1 hne htr
        exact Or.inr (by omega)
    · rcases moreP_legs hm with h2 | ⟨rfl, rfl⟩
      · rw [freeH_old h2, moreP_new]
        have := l2 j hj m h2 (fun e => hne e.symm) htr.symm
        exact Or.inl (by omega)
      · exact absurd rfl hne
  · rcases moreP_legs hm with h1 | ⟨rfl, rfl⟩
    · have hl := (hQ.at0 j hj m h1).2
      have hr := h.room j hj m h1
      rw [moreP_old h1, nowAll_more hk (by omega)]
      by_cases hb : i < np ∧ nowB f (moreP P i t) ((f j).leg m).to ((P j).s m) i (P i).n = true
      · rw [if_pos hb]
        have hst : stOf f P i = ((f j).leg m).to ∧ t ≤ (P j).s m := by
          refine ⟨Classical.byContradiction fun e => ?_, Int.not_lt.1 fun e => ?_⟩
          · rw [nowB_new (Or.inr e)] at hb; exact absurd hb.2 (by decide)
          · rw [nowB_new (Or.inl e)] at hb; exact absurd hb.2 (by decide)
        have ht : (P j).s m = t := by omega
        rw [← hst.1, ht]
        omega
      · rw [if_neg hb]; exact hr
    · rw [moreP_new, nowAll_more hk (Int.le_refl _)]
      show ((nowAll f P (stOf f P j) t np + _ : Nat) : Int) ≤ g (stOf f P j).toNat
      split <;> omega
theorem leavesOf_ge {len np : Nat} {g : Nat → Int} {gap : Int} {f : Nat → TrainD} {P : Nat → RowD} (hR : RightL len np f) (h : NoC np g gap f P) (hn : ∀ j, j < np → (P j).n = (f j).nl) {i k : Nat} (hi : i < np) (hk : k < (f i).nl) : (P i).s k ≤ leavesOf f P i k := by
  have hl := (hR.train i hi).leg k hk
  unfold leavesOf
  split
  · rename_i e
    have h1 := h.ready i hi (k + 1) e
    have h2 := (hR.train i hi).leg (k + 1) (by rw [← hn i hi]; exact e)
    simp only [readyOf] at h1
    omega
  · omega
theorem count_le {len np : Nat} {g : Nat → Int} {gap : Int} {f : Nat → TrainD} {P : Nat → RowD} (hR : RightL len np f) (h : NoC np g gap f P) (hn : ∀ j, j < np → (P j).n = (f j).nl) {i k : Nat} (hi : i < np) (hk : k < (f i).nl) {j : Nat} (hj : j < np) : ∀ m, m ≤ (f j).nl → countRow f P i k j m ≤ nowRow f P ((f i).leg k).to ((P i).s k) j m
  | 0, _ => Nat.le_refl _
  | m + 1, hm => by
    have h0 := count_le hR h hn hi hk hj m (by omega)
    simp only [countRow, nowRow]
    by_cases hs : skipB f P i k j m = true
    · rw [if_pos hs]; omega
    · have hb : nowB f P ((f i).leg k).to ((P i).s k) j m = true := by
        unfold skipB at hs
        rw [decide_eq_true_eq] at hs
        have hto : ((f j).leg m).to = ((f i).leg k).to := Classical.byContradiction fun e => hs (Or.inl e)
        have hle : (P j).s m ≤ (P i).s k := Int.not_lt.1 fun e => hs (Or.inr (Or.inl e))
        have hlv : (P i).s k ≤ leavesOf f P j m := by
          refine Int.not_lt.1 fun e => ?_
          by_cases hjm : j = i ∧ m = k
          · obtain ⟨rfl, rfl⟩ := hjm
            have := leavesOf_ge hR h hn hi hk
            omega
          · exact hs (Or.inr (Or.inr (Or.inr ⟨e, by by_cases hji : j = i; exact Or.inr (fun e2 => hjm ⟨hji, e2⟩); exact Or.inl hji⟩)))
        have hlo : leaveO f P j m = some (leavesOf f P j m) := by
          unfold leaveO leavesOf
          by_cases e : m + 1 < (P j).n
          · rw [if_pos e, if_pos e]
          · rw [if_neg e, if_neg e, if_neg (by rw [← hn j hj]; exact e)]
        unfold nowB hereB
        rw [hlo]
        simp [hto, hle, hlv]
      rw [if_neg hs, if_pos hb]; omega
theorem countAll_now {len np : Nat} {g : Nat → Int} {gap : Int} {f : Nat → TrainD} {P : Nat → RowD} (hR : RightL len np f) (h : NoC np g gap f P) (hn : ∀ j, j < np → (P j).n = (f j).nl) {i k : Nat} (hi : i < np) (hk : k < (f i).nl) : ∀ n, n ≤ np → countAll f P i k n ≤ nowAll f P ((f i).leg k).to ((P i).s k) n
  | 0, _ => Nat.le_refl _
  | n + 1, hle => by
    have h0 := countAll_now hR h hn hi hk n (by omega)
    have h1 := count_le hR h hn hi hk (show n < np by omega) (f n).nl (Nat.le_refl _)
    simp only [countAll, nowAll]
    rw [hn n (by omega)]
    omega
/-- a plan, whole, of legs none of which clashes, can be -/
theorem NoC.clash {len np : Nat} {g : Nat → Int} {gap last : Int} {f : Nat → TrainD} {P : Nat → RowD} (hF : faultOf len g gap np f = (0, 0)) (h : NoC np g gap f P) (hQ : PartP np f P last) (hn : ∀ j, j < np → (P j).n = (f j).nl) : clashOf len g gap np f np P = (0, 0, 0, 0) := by
  have hR := rightL_of hF
  have hG := rightG_of hF
  have hS : shapeB np f np P = true := by
    unfold shapeB
    rw [decide_eq_true_eq]
    refine ⟨rfl, fun i hi => ⟨hn i hi, fun k hk => ?_⟩⟩
    have h1 := hQ.at0 i hi k hk
    have h2 := hQ.l1
    unfold inB
    rw [decide_eq_true_eq]
    omega
  refine clashOf_zero hF hS (fun j hj m hm => h.ready j hj m (by rw [hn j hj]; exact hm)) (fun i hi k hk => withOf_none (fun j hj m hm => ?_)) (fun i hi k hk => ?_)
  · unfold onB
    rw [decide_eq_false_iff_not]
    rintro ⟨hne, htr, h1, _, h3⟩
    have hrun := (hR.train i hi).leg k hk
    have hg := hG.g0
    rcases h.track i hi k (by rw [hn i hi]; exact hk) j hj m (by rw [hn j hj]; exact hm) hne htr with e | e
    · unfold freeH at e; omega
    · unfold freeH at e; omega
  · unfold fullB
    rw [decide_eq_false_iff_not]
    have h1 := h.room i hi k (by rw [hn i hi]; exact hk)
    have h2 := countAll_now hR h hn hi hk np (Nat.le_refl _)
    omega
end Go.Proofs.YtnjaegeapcijpaaGreatDoor

namespace Go.Proofs.YtnjaegeapcijpaaGreatDoor
open Go.RowKit

section
variable {len np : Nat} {g : Nat → Int} {gap : Int} {f : Nat → TrainD} {o : Nat → Int}
theorem run_step {n : Nat} (hc : (runP np g f gap o (n + 1)).code = 0) : (runP np g f gap o n).code = 0 ∧ ∃ (i : Nat) (t : Int), i < np ∧ o n = (i : Int) ∧ ((runP np g f gap o n).P i).n ≠ (f i).nl ∧ IsFirst np g f (runP np g f gap o n).P (stOf f (runP np g f gap o n).P i) (lowOf np f (runP np g f gap o n).P gap (runP np g f gap o n).last i) t ∧ runP np g f gap o (n + 1) = ⟨0, 0, moreP (runP np g f gap o n).P i t, t⟩ := by
  have h0 : (runP np g f gap o n).code = 0 := Classical.byContradiction fun e => by
    have := runP_stick e 1
    rw [this] at hc
    exact e hc
  refine ⟨h0, ?_⟩
  have hs : runP np g f gap o (n + 1) = stepP np g f gap (o n) n (runP np g f gap o n) := rfl
  rw [hs] at hc ⊢
  unfold stepP at hc ⊢
  rw [if_neg (by simp [h0])] at hc ⊢
  by_cases hb : inB (o n) 0 ((np : Int) - 1) = true
  · rw [if_pos hb] at hc ⊢
    have hr := of_decide_eq_true hb
    by_cases hn : (nextOf np g f (runP np g f gap o n).P gap (runP np g f gap o n).last (o n).toNat).1 = 0
    · rw [if_pos hn]
      refine ⟨(o n).toNat, _, by omega, by omega, ?_, ?_, rfl⟩
      · intro e
        rw [nextOf_two e] at hn
        exact absurd hn (by decide)
      · unfold nextOf at hn ⊢
        by_cases e1 : ((runP np g f gap o n).P (o n).toNat).n = (f (o n).toNat).nl
        · rw [if_pos e1] at hn; exact absurd hn (by decide)
        · rw [if_neg e1] at hn ⊢
          split
          · rename_i h1
            exact h1.choose_spec
          · rename_i h1
            rw [dif_neg h1] at hn
            exact absurd hn (by decide)
    · rw [if_neg hn] at hc
      exact absurd hc hn
  · rw [if_neg hb] at hc
    exact absurd hc (by simp)
theorem run_all (hR : RightL len np f) (hG : RightG len g gap np f) : ∀ n, n ≤ 10 → (runP np g f gap o n).code = 0 → RunOk len np g f gap (runP np g f gap o n) n ∧ NoC np g gap f (runP np g f gap o n).P
  | 0, _, _ => ⟨runP_zero np g f gap o len, NoC.start np g gap f⟩
  | n + 1, hn, hc => by
    obtain ⟨h0, i, t, hi, ho, hne, hf, e⟩ := run_step hc
    obtain ⟨h1, h2⟩ := run_all hR hG n (by omega) h0
    have hk : ((runP np g f gap o n).P i).n < (f i).nl := by have := h1.part.le i hi; omega
    rw [e]
    exact ⟨(runOk_step hR hG h1 h0 hi hk hf (by omega)).2, h2.more h1.part hi hk hf⟩
theorem run_ext {n : Nat} : ∀ d, (runP np g f gap o (n + d)).code = 0 → (runP np g f gap o n).code = 0 ∧ ∀ j m, m < ((runP np g f gap o n).P j).n → m < ((runP np g f gap o (n + d)).P j).n ∧ ((runP np g f gap o (n + d)).P j).s m = ((runP np g f gap o n).P j).s m
  | 0, h => ⟨h, fun _ _ hm => ⟨hm, rfl⟩⟩
  | d + 1, h => by
    obtain ⟨h0, i, t, _, _, _, _, e⟩ := run_step (n := n + d) h
    obtain ⟨h1, h2⟩ := run_ext (n := n) d h0
    refine ⟨h1, fun j m hm => ?_⟩
    obtain ⟨h3, h4⟩ := h2 j m hm
    rw [show n + (d + 1) = n + d + 1 from rfl, e]
    exact ⟨moreP_lt h3, (moreP_old h3).trans h4⟩
/-- step n of a whole run: whose leg, which, and when it begins in the plan -/
theorem run_leg (hR : RightL len np f) (hG : RightG len g gap np f) {no n : Nat} (hno : no ≤ 10) (hc : (runP np g f gap o no).code = 0) (hn : n < no) : ∃ i : Nat, i < np ∧ o n = (i : Int) ∧ ((runP np g f gap o n).P i).n < ((runP np g f gap o no).P i).n ∧ ((runP np g f gap o no).P i).s ((runP np g f gap o n).P i).n = (runP np g f gap o (n + 1)).last ∧ (runP np g f gap o n).last ≤ (runP np g f gap o (n + 1)).last ∧ ∀ j, ((runP np g f gap o (n + 1)).P j).n = ((runP np g f gap o n).P j).n + (if j = i then 1 else 0) := by
  obtain ⟨d, rfl⟩ : ∃ d, no = n + 1 + d := ⟨no - (n + 1), by omega⟩
  obtain ⟨h1, hx⟩ := run_ext (n := n + 1) d hc
  obtain ⟨h0, i, t, hi, ho, hne, hf, e⟩ := run_step h1
  obtain ⟨hk, _⟩ := run_all hR hG n (by omega) h0
  have hk2 : ((runP np g f gap o n).P i).n < (f i).nl := by have := hk.part.le i hi; omega
  have hnew : ((runP np g f gap o n).P i).n < ((runP np g f gap o (n + 1)).P i).n := by rw [e]; show _ < (moreP _ _ _ _).n; rw [moreP_n]; omega
  obtain ⟨hx1, hx2⟩ := hx i _ hnew
  refine ⟨i, hi, ho, hx1, ?_, ?_, fun j => ?_⟩
  · rw [hx2, e]; exact moreP_new
  · rw [e]
    have := (low_bd hR hG hk.part hi hk2).1
    have := hf.1
    show (runP np g f gap o n).last ≤ t
    omega
  · rw [e]
    show (moreP _ _ _ j).n = _
    by_cases hj : j = i
    · subst hj; rw [moreP_n, if_pos rfl]
    · rw [moreP_other hj, if_neg hj]; omega
theorem rows_full {P : Nat → RowD} : ∀ {n : Nat}, (∀ j, j < n → (P j).n ≤ (f j).nl) → rowSumQ P n = legSum f n → ∀ j, j < n → (P j).n = (f j).nl
  | 0, _, _ => fun j hj => absurd hj (Nat.not_lt_zero j)
  | n + 1, hle, he => fun j hj => by
    have hs : ∀ m, m ≤ n → rowSumQ P m ≤ legSum f m := fun m => by
      induction m with
      | zero => exact fun _ => Nat.le_refl _
      | succ m ih =>
        intro hm
        have h1 := ih (by omega)
        have h2 := hle m (by omega)
        simp only [rowSumQ, legSum]; omega
    have h1 := hs n (Nat.le_refl _)
    have h2 := hle n (by omega)
    simp only [rowSumQ, legSum] at he
    by_cases e : j = n
    · subst e; omega
    · exact rows_full (n := n) (fun j hj => hle j (by omega)) (by omega) j (by omega)
theorem placeSt_zero {no : Nat} (h : (placeSt len g gap np f no o).code = 0) : faultOf len g gap np f = (0, 0) ∧ no ≤ 10 ∧ (runP np g f gap o no).code = 0 ∧ no = legSum f np ∧ placeSt len g gap np f no o = runP np g f gap o no := by
  unfold placeSt at h ⊢
  by_cases hb : (faultOf len g gap np f).1 = 0 ∧ no ≤ 10
  · rw [if_pos hb] at h ⊢
    by_cases hc : (runP np g f gap o no).code = 0
    · rw [if_neg (by simp [hc])] at h ⊢
      by_cases hl : no = legSum f np
      · rw [if_pos hl]
        exact ⟨faultOf_snd hb.1, hb.2, hc, hl, rfl⟩
      · rw [if_neg hl] at h; exact absurd h (by simp)
    · rw [if_pos hc] at h; exact absurd h hc
  · rw [if_neg hb] at h; exact absurd h (by simp)
/-- the plan of an order, where it has one, can be -/
theorem placed_clash {no : Nat} (h : (placeSt len g gap np f no o).code = 0) : clashOf len g gap np f np (placeSt len g gap np f no o).P = (0, 0, 0, 0) := by
  obtain ⟨hF, hno, hc, hl, e⟩ := placeSt_zero h
  obtain ⟨h1, h2⟩ := run_all (rightL_of hF) (rightG_of hF) no hno hc
  rw [e]
  exact h2.clash hF h1.part (rows_full h1.part.le (by rw [h1.sum, hl]))
end
end Go.Proofs.YtnjaegeapcijpaaGreatDoor

namespace Go.Proofs.YtnjaegeapcijpaaGreatDoor
open Go.RowKit

/-- the best so far: whether there is one, what it costs, its plan -/
structure Acc where
  met : Bool
  cost : Int
  plan : Nat → RowD
def foldN (h : Nat → Acc → Acc) : Nat → Acc → Acc
  | 0, A => A
  | i + 1, A => h i (foldN h i A)
/-- all orders of what is left, looked through -/
noncomputable def lookP (np : Nat) (g : Nat → Int) (f : Nat → TrainD) (gap : Int) : Nat → (Nat → RowD) → Int → Acc → Acc
  | 0, P, last, A => if A.met = true ∧ A.cost < floorP f P last np then A else if A.met = false ∨ floorP f P last np < A.cost ∨ lessP np P A.plan = true then ⟨true, floorP f P last np, P⟩ else A
  | left + 1, P, last, A => if A.met = true ∧ A.cost < floorP f P last np then A else foldN (fun i B => if (nextOf np g f P gap last i).1 = 0 then lookP np g f gap left (moreP P i (nextOf np g f P gap last i).2) (nextOf np g f P gap last i).2 B else B) np A
/-- the record of the search, at block bs -/
structure SolS (W : World) (bs : Nat) (a : Option Addr) (len cap : Nat) (gap : Int) (a' : Option Addr) (np cap' : Nat) (f : Nat → TrainD) (A : Acc) (cA : Option Addr) (nA ncA : Nat) : Prop where
  c0 : W.cell? ⟨bs, 0, none⟩ = some (.slice a len cap)
  c1 : W.cell? ⟨bs, 1, none⟩ = some (.int .i64 gap)
  c2 : W.cell? ⟨bs, 2, none⟩ = some (.slice a' np cap')
  c3 : W.cell? ⟨bs, 3, none⟩ = some (.bool A.met)
  c4 : W.cell? ⟨bs, 4, none⟩ = some (.int .i64 A.cost)
  c5 : W.cell? ⟨bs, 5, none⟩ = some (.slice cA nA ncA)
  z3 : W.frozen? ⟨bs, 3, none⟩ = false
  z4 : W.frozen? ⟨bs, 4, none⟩ = false
  z5 : W.frozen? ⟨bs, 5, none⟩ = false
  plan : A.met = true → nA = np ∧ OwnP (bs + 1) W cA np A.plan ∧ ∀ j, j < np → (A.plan j).n = (f j).nl
section
variable {W W' : World} {bs : Nat} {a : Option Addr} {len cap : Nat} {gap : Int} {a' : Option Addr} {np cap' : Nat} {f : Nat → TrainD} {A : Acc} {cA : Option Addr} {nA ncA : Nat}
theorem SolS.above (h : SolS W bs a len cap gap a' np cap' f A cA nA ncA) (hs : ∀ k, bs ≤ k → k < W.heap.size → W'.heap[k]? = W.heap[k]?) : SolS W' bs a len cap gap a' np cap' f A cA nA ncA := by
  have hb := hs bs (Nat.le_refl _) (ltCell h.c0)
  have cc : ∀ o u, W.cell? ⟨bs, o, none⟩ = some u → W'.cell? ⟨bs, o, none⟩ = some u := fun o u hu => (World.cell?_of_block (w := W) (w' := W') (a := ⟨bs, o, none⟩) hb).trans hu
  have zz : ∀ o, W.frozen? ⟨bs, o, none⟩ = false → W'.frozen? ⟨bs, o, none⟩ = false := fun o hu => (World.frozen?_of_block (w := W) (w' := W') (a := ⟨bs, o, none⟩) hb).trans hu
  refine ⟨cc 0 _ h.c0, cc 1 _ h.c1, cc 2 _ h.c2, cc 3 _ h.c3, cc 4 _ h.c4, cc 5 _ h.c5, zz 3 h.z3, zz 4 h.z4, zz 5 h.z5, fun hm => ?_⟩
  obtain ⟨h1, h2, h3⟩ := h.plan hm
  exact ⟨h1, h2.same (fun k h0 hk => hs k (by omega) hk), h3⟩
theorem SolS.later (h : SolS W bs a len cap gap a' np cap' f A cA nA ncA) (hB : Below W.heap.size W W') : SolS W' bs a len cap gap a' np cap' f A cA nA ncA := h.above (fun k _ hk => hB.block k hk)
/-- a better one is kept -/
theorem SolS.keep {c : Option Addr} {nc : Nat} {P : Nat → RowD} {fl : Int} (h : SolS W bs a len cap gap a' np cap' f A cA nA ncA) (hP : OwnP (bs + 1) W c np P) (hn : ∀ j, j < np → (P j).n = (f j).nl) :
    SolS (((W.setCell ⟨bs, 3, none⟩ (.bool true)).setCell ⟨bs, 4, none⟩ (.int .i64 fl)).setCell ⟨bs, 5, none⟩ (.slice c np nc)) bs a len cap gap a' np cap' f ⟨true, fl, P⟩ c np nc := by
  refine ⟨(cell_set_ne (by omega)).trans ((cell_set_ne (by omega)).trans ((cell_set_ne (by omega)).trans h.c0)), (cell_set_ne (by omega)).trans ((cell_set_ne (by omega)).trans ((cell_set_ne (by omega)).trans h.c1)), (cell_set_ne (by omega)).trans ((cell_set_ne (by omega)).trans ((cell_set_ne (by omega)).trans h.c2)), (cell_set_ne (by omega)).trans ((cell_set_ne (by omega)).trans (World.cell?_setCell_same _ _ _ h.c3)), (cell_set_ne (by omega)).trans (World.cell?_setCell_same _ _ _ ((cell_set_ne (by omega)).trans h.c4)), World.cell?_setCell_same _ _ _ ((cell_set_ne (by omega)).trans ((cell_set_ne (by omega)).trans h.c5)), by simp only [World.frozen?_setCell]; exact h.z3, by simp only [World.frozen?_setCell]; exact h.z4, by simp only [World.frozen?_setCell]; exact h.z5, fun _ => ⟨rfl, ?_, hn⟩⟩
  have hs : ∀ k, k ≠ bs → (((W.setCell ⟨bs, 3, none⟩ (.bool true)).setCell ⟨bs, 4, none⟩ (.int .i64 fl)).setCell ⟨bs, 5, none⟩ (.slice c np nc)).heap[k]? = W.heap[k]? := fun k hk => (Below.heap_setCell _ _ _ k hk).trans ((Below.heap_setCell _ _ _ k hk).trans (Below.heap_setCell _ _ _ k hk))
  exact hP.same (fun k h0 _ => hs k (by omega))
end
theorem LP.mid {B0 : Nat} {W W' : World} {b gR : Nat} {a : Option Addr} {len cap : Nat} {gap : Int} {a' : Option Addr} {np cap' : Nat} {c : Option Addr} {nc : Nat} {v : Nat → Value} {P : Nat → RowD} {last : Int} {bs : Nat} (h : LP B0 W b gR a len cap gap a' np cap' c nc v P last) (hM : Mid bs (bs + 1) W W') (hb : bs < B0) : LP B0 W' b gR a len cap gap a' np cap' c nc v P last := by
  have hs : ∀ k, B0 ≤ k → k < W.heap.size → W'.heap[k]? = W.heap[k]? := fun k h0 h1 => hM.above k (by omega) h1
  have lb := h.lb
  have hbb := hs b lb (ltCell h.l2.c0)
  have cc : ∀ o u, W.cell? ⟨b, o, none⟩ = some u → W'.cell? ⟨b, o, none⟩ = some u := fun o u hu => (World.cell?_of_block (w := W) (w' := W') (a := ⟨b, o, none⟩) hbb).trans hu
  refine ⟨⟨cc 0 _ h.l2.c0, cc 1 _ h.l2.c1, cc 2 _ h.l2.c2, cc 3 _ h.l2.c3, cc 4 _ h.l2.c4⟩, (World.frozen?_of_block (w := W) (w' := W') (a := ⟨b, 4, none⟩) hbb).trans h.z4, fun j hj => ?_, fun j hj => ownsRow_same (h.own j hj) (fun k hk => hs k ((h.own j hj).lt k hk).1 ((h.own j hj).lt k hk).2), h.apart, h.off, h.ne, h.lb, h.lg⟩
  obtain ⟨e, hc, hz⟩ := h.row j hj
  have hg := hs gR h.lg (ltCell hc)
  exact ⟨e, (World.cell?_of_block (w := W) (w' := W') (a := ⟨gR, j, none⟩) hg).trans hc, (World.frozen?_of_block (w := W) (w' := W') (a := ⟨gR, j, none⟩) hg).trans hz⟩
end Go.Proofs.YtnjaegeapcijpaaGreatDoor

namespace Go.Proofs.YtnjaegeapcijpaaGreatDoor
open Go.RowKit

/-- what a look answers -/
def LookPost (bs : Nat) (a : Option Addr) (len cap : Nat) (gap : Int) (a' : Option Addr) (np cap' : Nat) (f : Nat → TrainD) (A : Acc) (w : World) (e : Ending) (w' : World) : Prop := e = .returned (.tuple #[]) ∧ Mid bs (bs + 1) w w' ∧ ∃ cA nA ncA, SolS w' bs a len cap gap a' np cap' f A cA nA ncA
theorem look_keep {bs : Nat} {a : Option Addr} {len cap : Nat} {gap : Int} {a' : Option Addr} {np cap' : Nat} {f : Nat → TrainD} {A : Acc} {cA : Option Addr} {nA ncA : Nat} {w V : World} {c : Option Addr} {nc : Nat} {P : Nat → RowD} {fl : Int} (hM : Mid bs (bs + 1) w V) (hS : SolS V bs a len cap gap a' np cap' f A cA nA ncA) (hP : OwnP (bs + 1) V c np P) (hn : ∀ j, j < np → (P j).n = (f j).nl) :
    LookPost bs a len cap gap a' np cap' f ⟨true, fl, P⟩ w (.returned (.tuple #[])) (((V.setCell ⟨bs, 3, none⟩ (.bool true)).setCell ⟨bs, 4, none⟩ (.int .i64 fl)).setCell ⟨bs, 5, none⟩ (.slice c np nc)) :=
  ⟨rfl, ((hM.trans (Mid.set (Nat.le_refl _) (Nat.lt_succ_self _) _)).trans (Mid.set (Nat.le_refl _) (Nat.lt_succ_self _) _)).trans (Mid.set (Nat.le_refl _) (Nat.lt_succ_self _) _), c, np, nc, hS.keep hP hn⟩
set_option maxRecDepth 20000 in
set_option maxHeartbeats 8000000 in
theorem look_zero (bs : Nat) (a : Option Addr) (len cap : Nat) (g : Nat → Int) (gap : Int) (a' : Option Addr) (np cap' : Nat) (f : Nat → TrainD) (hR : RightL len np f)
    (B0 b gR : Nat) (c : Option Addr) (nc : Nat) (v : Nat → Value) (P : Nat → RowD) (last : Int) (A : Acc) (cA : Option Addr) (nA ncA : Nat) (w : World) (hbs : bs < B0) (hL : LP B0 w b gR a len cap gap a' np cap' c nc v P last) (hQ : PartP np f P last) (hn : ∀ j, j < np → (P j).n = (f j).nl)
    (hT : IsTrains 0 bs w a' np f) (hS : SolS w bs a len cap gap a' np cap' f A cA nA ncA) :
    Calls Tryz.prog 47 #[.pointer (some ⟨bs, 0, none⟩), .pointer (some ⟨b, 0, none⟩), .int .i64 0] w (LookPost bs a len cap gap a' np cap' f (lookP np g f gap 0 P last A) w) := by
  have hlb := ltCell hS.c0
  have h10 : ∀ j, j < np → (P j).n ≤ 10 := fun j hj => by rw [hn j hj]; exact (hR.train j hj).nl
  have hnp := hR.tr
  have hFl := l3floor_any b a len cap gap a' np cap' f c nc P last w hR hQ hL.l2 (hT.mono (Nat.le_refl _) (Nat.le_of_lt hlb)) (hL.rows h10)
  obtain ⟨fl, hfl⟩ : ∃ fl, fl = floorP f P last np := ⟨_, rfl⟩
  rw [← hfl] at hFl
  have hlook : lookP np g f gap 0 P last A = if A.met = true ∧ A.cost < fl then A else if A.met = false ∨ fl < A.cost ∨ lessP np P A.plan = true then ⟨true, fl, P⟩ else A := by rw [hfl]; rfl
  have hlook' : Hid _ := hlook
  clear hlook hfl
  go_enter Tryz.func47, Tryz.ntmps47
  go_wp2_with (go_at_call 78; fail)
  refine hFl.mono ?_
  rintro _ w1 ⟨rfl, hB1⟩
  have hs1 := hB1.size
  have hne : b ≠ bs := by have := hL.lb; omega
  have hne' : bs ≠ b := fun e => hne e.symm
  have hS1 := hS.later hB1
  have hL1 := hL.later hB1
  have hM1 : Mid bs (bs + 1) w w1 := Mid.ofBelow hB1 (by omega)
  have q3 := hS1.c3
  have q4 := hS1.c4
  have q5 := hS1.c5
  have p3 := hL1.l2.c3
  have z3 := hS1.z3
  have z4 := hS1.z4
  have z5 := hS1.z5
  have hrows : OwnP (bs + 1) w1 c np P := hL1.ownP.low (by omega)
  clear hFl
  cases hmet : A.met
  · rw [hmet] at q3
    have hres : lookP np g f gap 0 P last A = ⟨true, fl, P⟩ := by rw [hlook'.out, if_neg (by simp [hmet]), if_pos (Or.inl hmet)]
    go_wp2
    go_quiet (fail)
    have hBq : Below w1.heap.size w1 (w1.drewN nq) := below_drewN (Below.refl _ _) _
    have hSq := hS1.later hBq
    have hkeep := look_keep (w := w) (fl := fl) (nc := nc) (hM1.trans (Mid.ofBelow hBq (by omega))) hSq (hrows.same (fun k _ hk => hBq.block k hk)) hn
    have hkeep' : Hid _ := hkeep
    have q3q := hSq.c3
    have q4q := hSq.c4
    have q5q := hSq.c5
    have p3q := cellLater hBq p3
    have z3q := hSq.z3
    have z4q := hSq.z4
    have z5q := hSq.z5
    clear hkeep hBq hSq q3 q4 q5 p3 z3 z4 z5
    go_wp2
    exact bodyPost_ret (v := .tuple #[]) (by simp [results, Tryz.results47, go_sem]) rfl (by obtain ⟨_, h2, h3⟩ := hkeep'.out; exact ⟨rfl, h2, h3⟩)
  · rw [hmet] at q3
    by_cases hc : A.cost < fl
    · have hres : lookP np g f gap 0 P last A = A := by rw [hlook'.out, if_pos ⟨hmet, hc⟩]
      have hres' : Hid _ := hres
      clear hres
      go_wp2
      exact bodyPost_ret (v := .tuple #[]) (by simp [results, Tryz.results47, go_sem]) rfl ⟨rfl, hM1, _, _, _, by rw [hres'.out]; exact hS1⟩
    · by_cases hc2 : fl < A.cost
      · have hres : lookP np g f gap 0 P last A = ⟨true, fl, P⟩ := by rw [hlook'.out, if_neg (fun h => hc h.2), if_pos (Or.inr (Or.inl hc2))]
        have hd1 : decide (fl < A.cost) = true := decide_eq_true hc2
        go_wp2
        go_quiet (fail)
        have hBq : Below w1.heap.size w1 (w1.drewN nq) := below_drewN (Below.refl _ _) _
        have hSq := hS1.later hBq
        have hkeep := look_keep (w := w) (fl := fl) (nc := nc) (hM1.trans (Mid.ofBelow hBq (by omega))) hSq (hrows.same (fun k _ hk => hBq.block k hk)) hn
        have hkeep' : Hid _ := hkeep
        have q3q := hSq.c3
        have q4q := hSq.c4
        have q5q := hSq.c5
        have p3q := cellLater hBq p3
        have z3q := hSq.z3
        have z4q := hSq.z4
        have z5q := hSq.z5
        clear hkeep hBq hSq q3 q4 q5 p3 z3 z4 z5
        go_wp2
        exact bodyPost_ret (v := .tuple #[]) (by simp [results, Tryz.results47, go_sem]) rfl (by obtain ⟨_, h2, h3⟩ := hkeep'.out; exact ⟨rfl, h2, h3⟩)
      · have hd1 : decide (fl < A.cost) = false := decide_eq_false hc2
        obtain ⟨hnA, hrA, hfA⟩ := hS1.plan hmet
        subst hnA
        have hDr : Below w1.heap.size w1 w1.drew := (Below.refl _ _).drew
        have hLs := l3less_any c cA nA nc ncA P A.plan w1.drew (by omega) (fun j hj => by have := h10 j hj; omega) (fun j hj => by rw [hfA j hj, hn j hj]) (((hrows.rows h10).mono (Nat.zero_le _) (Nat.le_refl _)).grow hDr) (((hrA.rows (fun j hj => by rw [hfA j hj, ← hn j hj]; exact h10 j hj)).mono (Nat.zero_le _) (Nat.le_refl _)).grow hDr)
        obtain ⟨lv, hlv⟩ : ∃ lv, lv = lessP nA P A.plan := ⟨_, rfl⟩
        rw [← hlv] at hLs
        have hlv' : Hid _ := hlv
        clear hlv
        cases lv
        · have hres : lookP nA g f gap 0 P last A = A := by rw [hlook'.out, if_neg (fun h => by have := h.2; omega), if_neg (fun h => by rcases h with h | h | h; exact absurd (hmet.symm.trans h) (by decide); omega; exact absurd (hlv'.out.trans h) (by decide))]
          have hres' : Hid _ := hres
          clear hres
          go_wp2
          go_region_held3 (fun w' => w'.cell? ⟨bs, 3, none⟩ = some (.bool true) ∧ w'.cell? ⟨bs, 4, none⟩ = some (.int .i64 A.cost) ∧ w'.cell? ⟨bs, 5, none⟩ = some (.slice cA nA ncA) ∧ w'.cell? ⟨b, 3, none⟩ = some (.slice c nA nc)) (first | go_keep | (go_split_ands; refine ⟨?_, ?_, ?_, ?_⟩ <;> exact cellLater hB7 (by assumption))) ((go_at_call 79; refine hLs.mono ?_; rintro _ w7 ⟨rfl, hB7⟩))
          have hB17 := Below.join hDr (Nat.le_refl _) hB7
          have hS7 := hS1.later hB17
          have hM7 : Mid bs (bs + 1) w w7 := hM1.trans (Mid.ofBelow hB17 (by omega))
          clear q3 q4 q5 p3 z3 z4 z5 hLs hB7 hB17 hDr
          go_wp2
          exact bodyPost_ret (v := .tuple #[]) (by simp [results, Tryz.results47, go_sem]) rfl ⟨rfl, hM7, _, _, _, by rw [hres'.out]; exact hS7⟩
        · have hres : lookP nA g f gap 0 P last A = ⟨true, fl, P⟩ := by rw [hlook'.out, if_neg (fun h => by have := h.2; omega), if_pos (Or.inr (Or.inr hlv'.out.symm))]
          go_wp2
          go_region_held3 (fun w' => w'.cell? ⟨bs, 3, none⟩ = some (.bool true) ∧ w'.cell? ⟨bs, 4, none⟩ = some (.int .i64 A.cost) ∧ w'.cell? ⟨bs, 5, none⟩ = some (.slice cA nA ncA) ∧ w'.cell? ⟨b, 3, none⟩ = some (.slice c nA nc)) (first | go_keep | (go_split_ands; refine ⟨?_, ?_, ?_, ?_⟩ <;> exact cellLater hB7 (by assumption))) ((go_at_call 79; refine hLs.mono ?_; rintro _ w7 ⟨rfl, hB7⟩))
          have hB17 := Below.join hDr (Nat.le_refl _) hB7
          have hS7 := hS1.later hB17
          have hr7 : OwnP (bs + 1) w7 c nA P := hrows.same (fun k _ hk => hB17.block k hk)
          have hM7 : Mid bs (bs + 1) w w7 := hM1.trans (Mid.ofBelow hB17 (by omega))
          have q3q := hS7.c3
          have q4q := hS7.c4
          have q5q := hS7.c5
          have p3q := cellLater hB17 p3
          have z3q := hS7.z3
          have z4q := hS7.z4
          have z5q := hS7.z5
          have hkeep := look_keep (w := w) (fl := fl) (nc := nc) hM7 hS7 hr7 hn
          have hkeep' : Hid _ := hkeep
          clear hkeep q3 q4 q5 p3 z3 z4 z5 hLs hB7 hB17 hDr
          go_wp2
          exact bodyPost_ret (v := .tuple #[]) (by simp [results, Tryz.results47, go_sem]) rfl (by obtain ⟨_, h2, h3⟩ := hkeep'.out; exact ⟨rfl, h2, h3⟩)
end Go.Proofs.YtnjaegeapcijpaaGreatDoor
