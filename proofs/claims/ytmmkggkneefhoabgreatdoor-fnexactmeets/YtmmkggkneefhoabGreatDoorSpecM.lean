/-
  The model's word on when a train is where: what it answers. The model's Meets: what it answers.
-/
import Derived.Test.YtmmkggkneefhoabGreatDoorSpecQ
import Derived.Test.YtmmkggkneefhoabGreatDoorApp
namespace Go.Proofs.YtmmkggkneefhoabGreatDoor
open Go.RowKit

theorem fromOf_bd {t : TrainD} {r : RowD} (hR : RightT t) (hs : ∀ k, k < t.nl → 0 ≤ r.s k ∧ r.s k ≤ 1000000) : ∀ k, k ≤ t.nl → 0 ≤ fromOf t r k ∧ fromOf t r k ≤ 1010000
  | 0, _ => by have h0 := hR.r0; have h1 := hR.r1; simp only [fromOf]; omega
  | k + 1, h => by
    have hs' := hs k (by omega)
    obtain ⟨l0, l1, l2, l3⟩ := hR.leg k (by omega)
    simp only [fromOf]; omega
theorem toOf_bd {t : TrainD} {r : RowD} (hR : RightT t) (hs : ∀ k, k < t.nl → 0 ≤ r.s k ∧ r.s k ≤ 1000000) (k : Nat) (hk : k ≤ t.nl) : 0 ≤ toOf t r k ∧ toOf t r k ≤ 1010000 := by
  unfold toOf
  split
  · have := hs k (by assumption); omega
  · exact fromOf_bd hR hs k hk
def standV (s : StandD) : Value := .tuple #[.int .i64 s.st, .int .i64 s.frm, .int .i64 s.to]

set_option maxHeartbeats 4000000 in
theorem l3there_any (a : Option Addr) (len cap : Nat) (gap : Int) (a' : Option Addr) (len' cap' : Nat) (f : Nat → TrainD) (c : Option Addr) (np nc : Nat) (P : Nat → RowD) (i k : Nat) (w : World)
    (hR : RightL len len' f) (hQ : RightP len' f np P) (hi : i < len') (hk : k ≤ (f i).nl) (hT : IsTrains 0 w.heap.size w a' len' f) (hP : IsRows 0 w.heap.size w c np P) :
    Calls Tryz.prog 65 #[.agg #[.slice a len cap, .int .i64 gap, .slice a' len' cap'], .agg #[.slice c np nc], .int .i64 i, .int .i64 k] w fun e w' => e = .returned (.tuple #[.int .i64 (cur (f i) k), .int .i64 (fromOf (f i) (P i) k), .int .i64 (toOf (f i) (P i) k)]) ∧ Below w.heap.size w w' := by
  obtain rfl : np = len' := hQ.np
  have htr := hR.tr
  have hRi := hR.train i hi
  have hnl := hRi.nl
  have hpos := hR.pos i hi
  have hi' : (i : Int) < (np : Int) := by omega
  obtain ⟨b, off, la, lc, rfl, _, hb, t0, t1, t2, t3, t4, hlg, _⟩ := hT i hi
  obtain ⟨bp, op, lp, lpc, rfl, _, hbp, p0, hin, _⟩ := hP i hi
  rw [hQ.row i hi] at p0 hin
  obtain ⟨y0, y1, y2, u0⟩ := box2 w a len cap gap (some ⟨b, off, none⟩) np cap' (some ⟨bp, op, none⟩) np nc 35 29
  cases k with
  | zero =>
    have hz : ((0 : Int) == ((f i).nl : Int)) = false := by simp; omega
    have eto : toOf (f i) (P i) 0 = (P i).s 0 := by unfold toOf; rw [if_pos hpos]
    rw [eto]
    obtain ⟨bi, oi, rfl, _, hbi, q0⟩ := hin 0 hpos
    rw [Nat.add_zero] at q0
    have hp' : (0 : Int) < ((f i).nl : Int) := by omega
    go_enter Tryz.func65, Tryz.ntmps65
    go_wp2
    refine nameW fun W3 hW3 => ?_
    have hB3 : Below w.heap.size w W3 := hW3 ▸ b3 _ _ _ _
    have x0 : W3.cell? ⟨w.heap.size + 1, 0, none⟩ = some (.slice (some ⟨bp, op, none⟩) np nc) := by rw [hW3, World.cell?_alloc_lt _ _ ⟨w.heap.size + 1, 0, none⟩ (by simp)]; exact u0
    have e0 : W3.cell? ⟨w.heap.size + 1 + 1, 0, none⟩ = some (.int .i64 (f i).frm) := by rw [hW3, World.cell?_alloc_at _ _ _ _ (by simp)]; rfl
    have e1 : W3.cell? ⟨w.heap.size + 1 + 1, 1, none⟩ = some (.int .i64 (f i).ready) := by rw [hW3, World.cell?_alloc_at _ _ _ _ (by simp)]; rfl
    have e2 : W3.cell? ⟨w.heap.size + 1 + 1, 2, none⟩ = some (.int .i64 (f i).due) := by rw [hW3, World.cell?_alloc_at _ _ _ _ (by simp)]; rfl
    have e3 : W3.cell? ⟨w.heap.size + 1 + 1, 3, none⟩ = some (.int .i64 (f i).weight) := by rw [hW3, World.cell?_alloc_at _ _ _ _ (by simp)]; rfl
    have e4 : W3.cell? ⟨w.heap.size + 1 + 1, 4, none⟩ = some (.slice la (f i).nl lc) := by rw [hW3, World.cell?_alloc_at _ _ _ _ (by simp)]; rfl
    replace p0 := cellLater hB3 p0
    replace q0 := cellLater hB3 q0
    have hlg1 := hlg.grow hB3.drew
    clear hW3 t0 t1 t2 t3 t4 y0 y1 y2 u0
    go_region_held3 (fun w' => w'.cell? ⟨w.heap.size + 1, 0, none⟩ = some (.slice (some ⟨bp, op, none⟩) np nc) ∧ w'.cell? ⟨bp, op + i, none⟩ = some (.slice (some ⟨bi, oi, none⟩) (f i).nl lpc) ∧ w'.cell? ⟨bi, oi, none⟩ = some (.int .i64 ((P i).s 0)) ∧ w'.cell? ⟨w.heap.size + 1 + 1, 0, none⟩ = some (.int .i64 (f i).frm) ∧ w'.cell? ⟨w.heap.size + 1 + 1, 1, none⟩ = some (.int .i64 (f i).ready) ∧ w'.cell? ⟨w.heap.size + 1 + 1, 2, none⟩ = some (.int .i64 (f i).due) ∧ w'.cell? ⟨w.heap.size + 1 + 1, 3, none⟩ = some (.int .i64 (f i).weight) ∧ w'.cell? ⟨w.heap.size + 1 + 1, 4, none⟩ = some (.slice la (f i).nl lc)) (first | go_keep | (go_split_ands; refine ⟨?_, ?_, ?_, ?_, ?_, ?_, ?_, ?_⟩ <;> exact cellLater hB5 (by assumption))) ((go_at_call 114; refine (l2at_any (f i) 0 _ _ _ (Nat.zero_le _) hnl hlg1).mono ?_; rintro e w5 ⟨rfl, hB5⟩))
    go_wp2
    go_ret3
    exact ⟨rfl, Below.join hB3.drew (Nat.le_refl _) hB5⟩
  | succ k =>
    have e0 : ((k + 1 : Nat) : Int) = (k : Int) + 1 := by omega
    rw [e0]
    obtain ⟨l0, l1, l2, l3⟩ := hRi.leg k (by omega)
    obtain ⟨s0, s1⟩ := hQ.at0 i hi k (by omega)
    obtain ⟨bl, ol, rfl, _, hbl, g0, g1, g2⟩ := hlg k (by omega)
    obtain ⟨bi, oi, rfl, _, hbi, q0⟩ := hin k (by omega)
    have hk2 : (k : Int) < ((f i).nl : Int) := by omega
    have hw1 : IntKind.i64.wrap ((k : Int) + 1 - 1) = (k : Int) := by rw [IntKind.wrap_i64]; omega
    have hw2 : IntKind.i64.wrap (k : Int) = (k : Int) := by rw [IntKind.wrap_i64]; omega
    have hn0 : (0 : Int) ≤ (k : Int) := by omega
    have hn1 : (0 : Int) ≤ (k : Int) + 1 := by omega
    have hn2 : ((k : Int) + 1).toNat = k + 1 := by omega
    have hn3 : (0 : Int) < (k : Int) + 1 := by omega
    have efr : fromOf (f i) (P i) (k + 1) = (P i).s k + ((f i).leg k).run := rfl
    have ecu : cur (f i) (k + 1) = ((f i).leg k).to := rfl
    have hwr : IntKind.i64.wrap ((P i).s k + ((f i).leg k).run) = (P i).s k + ((f i).leg k).run := by rw [IntKind.wrap_i64]; omega
    by_cases hkn : k + 1 = (f i).nl
    · have hz : ((k : Int) + 1 == ((f i).nl : Int)) = true := by simp; omega
      have eto : toOf (f i) (P i) (k + 1) = (P i).s k + ((f i).leg k).run := by unfold toOf; rw [if_neg (by omega)]; rfl
      rw [eto, efr, ecu]
      go_enter Tryz.func65, Tryz.ntmps65
      go_wp2
      refine nameW fun W3 hW3 => ?_
      have hB3 : Below w.heap.size w W3 := hW3 ▸ b3 _ _ _ _
      have x0 : W3.cell? ⟨w.heap.size + 1, 0, none⟩ = some (.slice (some ⟨bp, op, none⟩) np nc) := by rw [hW3, World.cell?_alloc_lt _ _ ⟨w.heap.size + 1, 0, none⟩ (by simp)]; exact u0
      have x4 : W3.cell? ⟨w.heap.size + 1 + 1, 4, none⟩ = some (.slice (some ⟨bl, ol, none⟩) (f i).nl lc) := by rw [hW3, World.cell?_alloc_at _ _ _ _ (by simp)]; rfl
      replace p0 := cellLater hB3 p0
      replace q0 := cellLater hB3 q0
      replace g0 := cellLater hB3 g0
      replace g1 := cellLater hB3 g1
      clear hW3 t0 t1 t2 t3 t4 y0 y1 y2 u0
      go_region_held3 (fun w' => w'.cell? ⟨w.heap.size + 1, 0, none⟩ = some (.slice (some ⟨bp, op, none⟩) np nc) ∧ w'.cell? ⟨bp, op + i, none⟩ = some (.slice (some ⟨bi, oi, none⟩) (f i).nl lpc) ∧ w'.cell? ⟨bi, oi + k, none⟩ = some (.int .i64 ((P i).s k)) ∧ w'.cell? ⟨w.heap.size + 1 + 1, 4, none⟩ = some (.slice (some ⟨bl, ol, none⟩) (f i).nl lc) ∧ w'.cell? ⟨bl, ol + k * 3 + 1, none⟩ = some (.int .i64 ((f i).leg k).run)) (go_keep) (fail)
      go_wp2
      go_ret3
      exact ⟨rfl, hB3.drew⟩
    · have hz : ((k : Int) + 1 == ((f i).nl : Int)) = false := by simp; omega
      have hlt : k + 1 < (f i).nl := by omega
      have hlt' : (k : Int) + 1 < ((f i).nl : Int) := by omega
      have eto : toOf (f i) (P i) (k + 1) = (P i).s (k + 1) := by unfold toOf; rw [if_pos hlt]
      rw [eto, efr]
      obtain ⟨bi', oi', ei, _, _, q1⟩ := hin (k + 1) hlt
      simp only [Option.some.injEq, Addr.mk.injEq] at ei
      obtain ⟨rfl, rfl, _⟩ := ei
      have hat : ∀ W : World, IsLegs 0 W.heap.size W (some ⟨bl, ol, none⟩) (f i).nl (f i).leg → Calls Tryz.prog 114 #[.agg #[.int .i64 (f i).frm, .int .i64 (f i).ready, .int .i64 (f i).due, .int .i64 (f i).weight, .slice (some ⟨bl, ol, none⟩) (f i).nl lc], .int .i64 ((k : Int) + 1)] W fun e w' => e = .returned (.int .i64 (cur (f i) (k + 1))) ∧ Below W.heap.size W w' := fun W hL => by
        have h := l2at_any (f i) (k + 1) (some ⟨bl, ol, none⟩) lc W (by omega) hnl hL
        rw [e0] at h
        exact h
      go_enter Tryz.func65, Tryz.ntmps65
      go_wp2
      refine nameW fun W3 hW3 => ?_
      have hB3 : Below w.heap.size w W3 := hW3 ▸ b3 _ _ _ _
      have x0 : W3.cell? ⟨w.heap.size + 1, 0, none⟩ = some (.slice (some ⟨bp, op, none⟩) np nc) := by rw [hW3, World.cell?_alloc_lt _ _ ⟨w.heap.size + 1, 0, none⟩ (by simp)]; exact u0
      have z0 : W3.cell? ⟨w.heap.size + 1 + 1, 0, none⟩ = some (.int .i64 (f i).frm) := by rw [hW3, World.cell?_alloc_at _ _ _ _ (by simp)]; rfl
      have z1 : W3.cell? ⟨w.heap.size + 1 + 1, 1, none⟩ = some (.int .i64 (f i).ready) := by rw [hW3, World.cell?_alloc_at _ _ _ _ (by simp)]; rfl
      have z2 : W3.cell? ⟨w.heap.size + 1 + 1, 2, none⟩ = some (.int .i64 (f i).due) := by rw [hW3, World.cell?_alloc_at _ _ _ _ (by simp)]; rfl
      have z3 : W3.cell? ⟨w.heap.size + 1 + 1, 3, none⟩ = some (.int .i64 (f i).weight) := by rw [hW3, World.cell?_alloc_at _ _ _ _ (by simp)]; rfl
      have x4 : W3.cell? ⟨w.heap.size + 1 + 1, 4, none⟩ = some (.slice (some ⟨bl, ol, none⟩) (f i).nl lc) := by rw [hW3, World.cell?_alloc_at _ _ _ _ (by simp)]; rfl
      replace p0 := cellLater hB3 p0
      replace q0 := cellLater hB3 q0
      replace q1 := cellLater hB3 q1
      replace g1 := cellLater hB3 g1
      have hlg1 := hlg.grow hB3.drew.drew
      clear hW3 t0 t1 t2 t3 t4 y0 y1 y2 u0
      go_region_held3 (fun w' => w'.cell? ⟨w.heap.size + 1, 0, none⟩ = some (.slice (some ⟨bp, op, none⟩) np nc) ∧ w'.cell? ⟨bp, op + i, none⟩ = some (.slice (some ⟨bi, oi, none⟩) (f i).nl lpc) ∧ w'.cell? ⟨bi, oi + k, none⟩ = some (.int .i64 ((P i).s k)) ∧ w'.cell? ⟨w.heap.size + 1 + 1, 4, none⟩ = some (.slice (some ⟨bl, ol, none⟩) (f i).nl lc) ∧ w'.cell? ⟨bl, ol + k * 3 + 1, none⟩ = some (.int .i64 ((f i).leg k).run)) (go_keep) (fail)
      go_wp2
      go_region_held3 (fun w' => w'.cell? ⟨w.heap.size + 1, 0, none⟩ = some (.slice (some ⟨bp, op, none⟩) np nc) ∧ w'.cell? ⟨bp, op + i, none⟩ = some (.slice (some ⟨bi, oi, none⟩) (f i).nl lpc) ∧ w'.cell? ⟨bi, oi + (k + 1), none⟩ = some (.int .i64 ((P i).s (k + 1))) ∧ w'.cell? ⟨w.heap.size + 1 + 1, 0, none⟩ = some (.int .i64 (f i).frm) ∧ w'.cell? ⟨w.heap.size + 1 + 1, 1, none⟩ = some (.int .i64 (f i).ready) ∧ w'.cell? ⟨w.heap.size + 1 + 1, 2, none⟩ = some (.int .i64 (f i).due) ∧ w'.cell? ⟨w.heap.size + 1 + 1, 3, none⟩ = some (.int .i64 (f i).weight) ∧ w'.cell? ⟨w.heap.size + 1 + 1, 4, none⟩ = some (.slice (some ⟨bl, ol, none⟩) (f i).nl lc)) (first | go_keep | (go_split_ands; refine ⟨?_, ?_, ?_, ?_, ?_, ?_, ?_, ?_⟩ <;> exact cellLater hB5 (by assumption))) ((go_at_call 114; refine (hat _ hlg1).mono ?_; rintro e w5 ⟨rfl, hB5⟩))
      go_wp2
      go_ret3
      exact ⟨rfl, Below.join hB3.drew.drew (Nat.le_refl _) hB5⟩

theorem Tryz.infoMeet : (Tryz.prog.info? 108).map (fun i => (i.zero, i.size, i.bytes)) = some (some (.agg #[.int .i64 0, .int .i64 0, .int .i64 0, .int .i64 0, .int .i64 0]), 5, 40) := by kernel_rfl

/-- a row of meetings that a call has made so far, behind a world that it began with -/
structure Got (W wr : World) (v : Value) (L : List MeetD) : Prop where
  own : wr.ownsRow W.heap.size 108 5 v L.length (meetCells L)
  below : Below W.heap.size W wr
theorem Got.later {W wr w' : World} {v : Value} {L : List MeetD} (h : Got W wr v L) (hB : Below wr.heap.size wr w') : Got W w' v L := ⟨ownsRow_later h.own hB, Below.join h.below (Nat.le_refl _) hB⟩
theorem Got.one {W wr w' : World} {v v' : Value} {L : List MeetD} {m : MeetD} (h : Got W wr v L) (ho : w'.ownsRow W.heap.size 108 5 v' (L.length + 1) (meetCells L ++ [.int .i64 m.a, .int .i64 m.b, .int .i64 m.at_, .int .i64 m.frm, .int .i64 m.to])) (hg : wr.grownBy w' v.ownBlock) : Got W w' v' (L ++ [m]) :=
  ⟨by rw [meetCells_app, List.length_append]; exact ho, h.below.grown hg h.below.size (fun k hk => (h.own.lt k hk).1)⟩

set_option maxRecDepth 20000 in
set_option maxHeartbeats 16000000 in
theorem specMeets_from (a : Option Addr) (len cap : Nat) (g : Nat → Int) (gap : Int) (a' : Option Addr) (len' cap' : Nat) (f : Nat → TrainD) (c : Option Addr) (np nc : Nat) (P : Nat → RowD) (w : World) 
    (hT : IsTrains 0 w.heap.size w a' len' f) (hP : IsRows 0 w.heap.size w c np P)
    (hCh : Calls Tryz.prog 57 #[.agg #[.slice a len cap, .int .i64 gap, .slice a' len' cap'], .agg #[.slice c np nc]] ((w.alloc (.cells #[.slice a len cap, .int .i64 gap, .slice a' len' cap'] 35)).alloc (.cells #[.slice c np nc] 29)) fun e w' => e = .returned (.agg #[.int .i64 (clashOf len g gap len' f np P).1, .int .i64 (clashOf len g gap len' f np P).2.1, .int .i64 (clashOf len g gap len' f np P).2.2.1, .int .i64 (clashOf len g gap len' f np P).2.2.2]) ∧ Below ((w.alloc (.cells #[.slice a len cap, .int .i64 gap, .slice a' len' cap'] 35)).alloc (.cells #[.slice c np nc] 29)).heap.size ((w.alloc (.cells #[.slice a len cap, .int .i64 gap, .slice a' len' cap'] 35)).alloc (.cells #[.slice c np nc] 29)) w') :
    Calls Tryz.prog 31 #[.agg #[.slice a len cap, .int .i64 gap, .slice a' len' cap'], .agg #[.slice c np nc]] w fun e w' => (∃ v, e = .returned v ∧ w'.ownsRow w.heap.size 108 5 v (meetsOf len g gap len' f np P).length (meetCells (meetsOf len g gap len' f np P))) ∧ Below w.heap.size w w' := by
  obtain ⟨y0, y1, y2, u0⟩ := box2 w a len cap gap a' len' cap' c np nc 35 29
  have hN := b2 w (.cells #[.slice a len cap, .int .i64 gap, .slice a' len' cap'] 35) (.cells #[.slice c np nc] 29)
  rcases clashOf_or len g gap len' f np P with hz | hz
  · have hA : meetsOf len g gap len' f np P = allM f P len' len' := by unfold meetsOf; rw [if_pos hz]
    obtain ⟨hF, hS⟩ := clashOf_ok hz
    have hF0 := faultOf_snd hF
    have hR := rightL_of hF0
    have hQ := rightP_of hS
    obtain rfl : np = len' := hQ.np
    rw [hA]
    rw [hz] at hCh
    dsimp only at hCh
    clear hA hz hF hF0 hS
    have htr := hR.tr
    obtain ⟨i0, hi, hz0, hz1, hz2⟩ := info_parts Tryz.infoMeet
    have hln := fun i hi => allM_len P htr (fun j hj => (hR.train j hj).nl) i hi
    have hmn := fun i (hi : i < np) d hd => manyM_len P (fun j hj => (hR.train j hj).nl) hi d hd
    have hpn := fun i j (hj : j < np) k => pairM_len P (i := i) (hR.train j hj).nl k
    go_enter Tryz.func31, Tryz.ntmps31
    go_wp2_with (go_at_call 57; refine hCh.mono ?_; rintro _ w2 ⟨rfl, hB2⟩; have hB := Below.join hN (Nat.le_refl _) hB2; have x0 := cellLater hB2 y0; have x1 := cellLater hB2 y1; have x2 := cellLater hB2 y2; have x3 := cellLater hB2 u0; have lw := ltCell x2)
    have hA1 := b1 w2 (.cells #[.int .i64 0, .int .i64 0, .int .i64 0, .int .i64 0] 87)
    refine nameW fun W hW => ?_
    rw [← hW] at hA1
    clear hW
    replace hB := Below.join hB (Nat.le_refl _) hA1
    replace x0 := cellLater hA1 x0
    replace x1 := cellLater hA1 x1
    replace x2 := cellLater hA1 x2
    replace x3 := cellLater hA1 x3
    clear hA1 hB2 lw hCh y0 y1 y2 u0 hN
    go_loopw [6, 26] (fun v ii wr => ∃ (i : Nat), i ≤ np ∧ ii = .int .i64 i ∧ Got W wr v (allM f P np i)) (fun _ ii _ => np - (intOf ii).toNat)
    case atStart => exact ⟨0, Nat.zero_le _, rfl, World.ownsRow_nil _ _ _ _, Below.refl _ _⟩
    case round =>
      obtain ⟨i, hin, rfl, hG⟩ := hrel
      by_cases hlt : i < np
      · have hi' : (i : Int) < (np : Int) := by omega
        have hlni := hln i hin
        go_wp2
        go_loopw [6, 8] (fun v jj wr2 => ∃ (j d : Nat), j = i + 1 + d ∧ j ≤ np ∧ jj = .int .i64 j ∧ Got W wr2 v (allM f P np i ++ manyM f P i d)) (fun _ jj _ => np - (intOf jj).toNat)
        case atStart => exact ⟨i + 1, 0, rfl, by omega, by go_num, by simpa [manyM] using hG⟩
        case round =>
          obtain ⟨j, d, hjd', hjn, rfl, hG2⟩ := hrel
          have hjd : Hid (j = i + 1 + d) := hjd'
          clear hjd'
          by_cases hjlt : j < np
          · have hj' : (j : Int) < (np : Int) := by omega
            have hmni := hmn i hlt d (by have := hjd.out; omega)
            have hLL : (allM f P np i ++ manyM f P i d).length ≤ 4000 := by have := hjd.out; rw [List.length_append]; omega
            generalize hE2' : allM f P np i ++ manyM f P i d = L2 at hG2 hLL
            have hE2 : Hid _ := hE2'
            clear hE2'
            obtain ⟨bi, oi, lai, lci, rfl, _, _, _, _, _, _, ti, _, _⟩ := hT i hlt
            obtain ⟨bj, oj, laj, lcj, ea', _, _, _, _, _, _, tj, _, _⟩ := hT j hjlt
            simp only [Option.some.injEq, Addr.mk.injEq] at ea'
            obtain ⟨rfl, rfl, _⟩ := ea'
            have hBw2 := Below.join hB (Nat.le_refl _) hG2.below
            have v2 := cellLater hG2.below x2
            have ti2 := cellLater hBw2 ti
            have tj2 := cellLater hBw2 tj
            go_wp2
            clear v2 ti2 tj2
            go_loopw [6, 9] (fun v kk wr3 => ∃ (k : Nat), k ≤ (f i).nl + 1 ∧ kk = .int .i64 k ∧ Got W wr3 v (L2 ++ pairM f P i j k)) (fun _ kk _ => (f i).nl + 1 - (intOf kk).toNat)
            case atStart => exact ⟨0, Nat.zero_le _, rfl, by simpa [pairM] using hG2⟩
            case round =>
              obtain ⟨k, hkn, rfl, hG3⟩ := hrel
              have hBw3 := Below.join hB (Nat.le_refl _) hG3.below
              have v2 := cellLater hG3.below x2
              have ti3 := cellLater hBw3 ti
              have tj3 := cellLater hBw3 tj
              have hnli := (hR.train i hlt).nl
              have hnlj := (hR.train j hjlt).nl
              by_cases hklt : k ≤ (f i).nl
              · have hk' : (k : Int) ≤ ((f i).nl : Int) := by omega
                have hppi := hpn i j hjlt k
                have hL3 : (L2 ++ pairM f P i j k).length ≤ 4200 := by rw [List.length_append]; omega
                generalize hE3' : L2 ++ pairM f P i j k = L3 at hG3 hL3
                have hE3 : Hid _ := hE3'
                clear hE3'
                go_wp2
                clear v2 ti3 tj3
                go_loopw [6, 10] (fun v mm wr4 => ∃ (m : Nat), m ≤ (f j).nl + 1 ∧ mm = .int .i64 m ∧ Got W wr4 v (L3 ++ rowM f P i j k m)) (fun _ mm _ => (f j).nl + 1 - (intOf mm).toNat)
                case atStart => exact ⟨0, Nat.zero_le _, rfl, by simpa [rowM] using hG3⟩
                case round =>
                  obtain ⟨m, hmn4, rfl, hG4⟩ := hrel
                  have hBw4 := Below.join hB (Nat.le_refl _) hG4.below
                  have c0 := cellLater hG4.below x0
                  have c1 := cellLater hG4.below x1
                  have c2 := cellLater hG4.below x2
                  have c3 := cellLater hG4.below x3
                  have tj4 := cellLater hBw4 tj
                  by_cases hmlt : m ≤ (f j).nl
                  · have hm' : (m : Int) ≤ ((f j).nl : Int) := by omega
                    have hrow := rowM_len f P i j k m
                    have hL4 : (L3 ++ rowM f P i j k m).length ≤ 4300 := by rw [List.length_append]; omega
                    have hstep : L3 ++ rowM f P i j k (m + 1) = (L3 ++ rowM f P i j k m) ++ meetOf i j (standOf (f i) (P i) k) (standOf (f j) (P j) m) := by rw [List.append_assoc]; rfl
                    have hC1 := l3there_any a len cap gap _ np cap' f c np nc P i k _ hR hQ hlt hklt (hT.grow hBw4) (hP.grow hBw4)
                    have hC2 := fun V hV => l3there_any a len cap gap _ np cap' f c np nc P j m V hR hQ hjlt hmlt (hT.grow (Below.join hBw4 (Nat.le_refl _) hV)) (hP.grow (Below.join hBw4 (Nat.le_refl _) hV))
                    have hst : Hid _ := hstep
                    clear hstep
                    generalize L3 ++ rowM f P i j k m = L4 at hG4 hL4 hst
                    have em : meetOf i j (standOf (f i) (P i) k) (standOf (f j) (P j) m) = if cur (f i) k = cur (f j) m ∧ maxI (fromOf (f i) (P i) k) (fromOf (f j) (P j) m) ≤ minI (toOf (f i) (P i) k) (toOf (f j) (P j) m) then [⟨i, j, cur (f i) k, maxI (fromOf (f i) (P i) k) (fromOf (f j) (P j) m), minI (toOf (f i) (P i) k) (toOf (f j) (P j) m)⟩] else [] := rfl
                    have hem : Hid _ := em
                    clear em
                    generalize meetOf i j (standOf (f i) (P i) k) (standOf (f j) (P j) m) = MM at hst hem
                    generalize cur (f i) k = xs at hC1 hem
                    generalize fromOf (f i) (P i) k = xf at hC1 hem
                    generalize toOf (f i) (P i) k = xt at hC1 hem
                    generalize cur (f j) m = ys at hC2 hem
                    generalize fromOf (f j) (P j) m = yf at hC2 hem
                    generalize toOf (f j) (P j) m = yt at hC2 hem
                    have lw0 := ltCell c2
                    by_cases hs : xs = ys
                    · subst hs
                      by_cases hf : xf < yf
                      · have e1 : maxI xf yf = yf := if_pos hf
                        by_cases ht : yt < xt
                        · have e2 : minI xt yt = yt := if_pos ht
                          by_cases hle : yf ≤ yt
                          · have eM : Hid (MM = [⟨i, j, xs, yf, yt⟩]) := by unfold Hid; rw [hem.out, e1, e2, if_pos ⟨rfl, hle⟩]
                            clear hem e1 e2
                            go_wp2_with (first | (at_builtin; refine wpList_append_own _ rfl _ _ 58 rfl W.heap.size 108 i0 _ 5 40 Tryz.underlying58 hi hz0 hz1 hz2 rfl (by decide) _ _ _ rfl ((ownsRow_later hG4.own hB45).alloc _) ⟨w5.heap.size, 0, none⟩ 1 1 [.int .i64 i, .int .i64 j, .int .i64 xs, .int .i64 yf, .int .i64 yt] rfl rfl cells5_lie one5 (by unfold maxLen; omega) (by omega) (by have h1 := hG4.below.size; have h2 := hB45.size; simp only [World.size_alloc]; omega) ?_) | first | (go_at_call 65; refine hC1.mono ?_; rintro _ w4 ⟨rfl, hB4⟩; replace c0 := cellLater hB4 c0; replace c1 := cellLater hB4 c1; replace c2 := cellLater hB4 c2; replace c3 := cellLater hB4 c3; clear hC1) | (go_at_call 65; refine (hC2 _ hB4).mono ?_; rintro _ w5 ⟨rfl, hB5⟩; have hB45 := Below.join hB4 (Nat.le_refl _) hB5; clear hC2))
                            intro v' w6 hown' hgrow _
                            have hG5 := (hG4.later (Below.join hB45 (Nat.le_refl _) (b1 w5 (.cells #[.int .i64 i, .int .i64 j, .int .i64 xs, .int .i64 yf, .int .i64 yt] 108)))).one (m := ⟨i, j, xs, yf, yt⟩) hown' hgrow
                            clear hown' hgrow
                            go_wp2
                            go_roundw
                            case rel => exact ⟨m + 1, by omega, by go_num, by rw [hst.out, eM.out]; exact hG5⟩
                            case measure => simp [intOf]; omega
                          · have eM : Hid (MM = []) := by unfold Hid; rw [hem.out, e1, e2, if_neg (fun h => hle h.2)]
                            clear hem e1 e2
                            go_wp2_with (first | (go_at_call 65; refine hC1.mono ?_; rintro _ w4 ⟨rfl, hB4⟩; replace c0 := cellLater hB4 c0; replace c1 := cellLater hB4 c1; replace c2 := cellLater hB4 c2; replace c3 := cellLater hB4 c3; clear hC1) | (go_at_call 65; refine (hC2 _ hB4).mono ?_; rintro _ w5 ⟨rfl, hB5⟩; have hB45 := Below.join hB4 (Nat.le_refl _) hB5; clear hC2))
                            go_roundw
                            case rel => exact ⟨m + 1, by omega, by go_num, by rw [hst.out, eM.out, List.append_nil]; exact hG4.later hB45⟩
                            case measure => simp [intOf]; omega
                        · have e2 : minI xt yt = xt := if_neg ht
                          by_cases hle : yf ≤ xt
                          · have eM : Hid (MM = [⟨i, j, xs, yf, xt⟩]) := by unfold Hid; rw [hem.out, e1, e2, if_pos ⟨rfl, hle⟩]
                            clear hem e1 e2
                            go_wp2_with (first | (at_builtin; refine wpList_append_own _ rfl _ _ 58 rfl W.heap.size 108 i0 _ 5 40 Tryz.underlying58 hi hz0 hz1 hz2 rfl (by decide) _ _ _ rfl ((ownsRow_later hG4.own hB45).alloc _) ⟨w5.heap.size, 0, none⟩ 1 1 [.int .i64 i, .int .i64 j, .int .i64 xs, .int .i64 yf, .int .i64 xt] rfl rfl cells5_lie one5 (by unfold maxLen; omega) (by omega) (by have h1 := hG4.below.size; have h2 := hB45.size; simp only [World.size_alloc]; omega) ?_) | first | (go_at_call 65; refine hC1.mono ?_; rintro _ w4 ⟨rfl, hB4⟩; replace c0 := cellLater hB4 c0; replace c1 := cellLater hB4 c1; replace c2 := cellLater hB4 c2; replace c3 := cellLater hB4 c3; clear hC1) | (go_at_call 65; refine (hC2 _ hB4).mono ?_; rintro _ w5 ⟨rfl, hB5⟩; have hB45 := Below.join hB4 (Nat.le_refl _) hB5; clear hC2))
                            intro v' w6 hown' hgrow _
                            have hG5 := (hG4.later (Below.join hB45 (Nat.le_refl _) (b1 w5 (.cells #[.int .i64 i, .int .i64 j, .int .i64 xs, .int .i64 yf, .int .i64 xt] 108)))).one (m := ⟨i, j, xs, yf, xt⟩) hown' hgrow
                            clear hown' hgrow
                            go_wp2
                            go_roundw
                            case rel => exact ⟨m + 1, by omega, by go_num, by rw [hst.out, eM.out]; exact hG5⟩
                            case measure => simp [intOf]; omega
                          · have eM : Hid (MM = []) := by unfold Hid; rw [hem.out, e1, e2, if_neg (fun h => hle h.2)]
                            clear hem e1 e2
                            go_wp2_with (first | (go_at_call 65; refine hC1.mono ?_; rintro _ w4 ⟨rfl, hB4⟩; replace c0 := cellLater hB4 c0; replace c1 := cellLater hB4 c1; replace c2 := cellLater hB4 c2; replace c3 := cellLater hB4 c3; clear hC1) | (go_at_call 65; refine (hC2 _ hB4).mono ?_; rintro _ w5 ⟨rfl, hB5⟩; have hB45 := Below.join hB4 (Nat.le_refl _) hB5; clear hC2))
                            go_roundw
                            case rel => exact ⟨m + 1, by omega, by go_num, by rw [hst.out, eM.out, List.append_nil]; exact hG4.later hB45⟩
                            case measure => simp [intOf]; omega
                      · have e1 : maxI xf yf = xf := if_neg hf
                        by_cases ht : yt < xt
                        · have e2 : minI xt yt = yt := if_pos ht
                          by_cases hle : xf ≤ yt
                          · have eM : Hid (MM = [⟨i, j, xs, xf, yt⟩]) := by unfold Hid; rw [hem.out, e1, e2, if_pos ⟨rfl, hle⟩]
                            clear hem e1 e2
                            go_wp2_with (first | (at_builtin; refine wpList_append_own _ rfl _ _ 58 rfl W.heap.size 108 i0 _ 5 40 Tryz.underlying58 hi hz0 hz1 hz2 rfl (by decide) _ _ _ rfl ((ownsRow_later hG4.own hB45).alloc _) ⟨w5.heap.size, 0, none⟩ 1 1 [.int .i64 i, .int .i64 j, .int .i64 xs, .int .i64 xf, .int .i64 yt] rfl rfl cells5_lie one5 (by unfold maxLen; omega) (by omega) (by have h1 := hG4.below.size; have h2 := hB45.size; simp only [World.size_alloc]; omega) ?_) | first | (go_at_call 65; refine hC1.mono ?_; rintro _ w4 ⟨rfl, hB4⟩; replace c0 := cellLater hB4 c0; replace c1 := cellLater hB4 c1; replace c2 := cellLater hB4 c2; replace c3 := cellLater hB4 c3; clear hC1) | (go_at_call 65; refine (hC2 _ hB4).mono ?_; rintro _ w5 ⟨rfl, hB5⟩; have hB45 := Below.join hB4 (Nat.le_refl _) hB5; clear hC2))
                            intro v' w6 hown' hgrow _
                            have hG5 := (hG4.later (Below.join hB45 (Nat.le_refl _) (b1 w5 (.cells #[.int .i64 i, .int .i64 j, .int .i64 xs, .int .i64 xf, .int .i64 yt] 108)))).one (m := ⟨i, j, xs, xf, yt⟩) hown' hgrow
                            clear hown' hgrow
                            go_wp2
                            go_roundw
                            case rel => exact ⟨m + 1, by omega, by go_num, by rw [hst.out, eM.out]; exact hG5⟩
                            case measure => simp [intOf]; omega
                          · have eM : Hid (MM = []) := by unfold Hid; rw [hem.out, e1, e2, if_neg (fun h => hle h.2)]
                            clear hem e1 e2
                            go_wp2_with (first | (go_at_call 65; refine hC1.mono ?_; rintro _ w4 ⟨rfl, hB4⟩; replace c0 := cellLater hB4 c0; replace c1 := cellLater hB4 c1; replace c2 := cellLater hB4 c2; replace c3 := cellLater hB4 c3; clear hC1) | (go_at_call 65; refine (hC2 _ hB4).mono ?_; rintro _ w5 ⟨rfl, hB5⟩; have hB45 := Below.join hB4 (Nat.le_refl _) hB5; clear hC2))
                            go_roundw
                            case rel => exact ⟨m + 1, by omega, by go_num, by rw [hst.out, eM.out, List.append_nil]; exact hG4.later hB45⟩
                            case measure => simp [intOf]; omega
                        · have e2 : minI xt yt = xt := if_neg ht
                          by_cases hle : xf ≤ xt
                          · have eM : Hid (MM = [⟨i, j, xs, xf, xt⟩]) := by unfold Hid; rw [hem.out, e1, e2, if_pos ⟨rfl, hle⟩]
                            clear hem e1 e2
                            go_wp2_with (first | (at_builtin; refine wpList_append_own _ rfl _ _ 58 rfl W.heap.size 108 i0 _ 5 40 Tryz.underlying58 hi hz0 hz1 hz2 rfl (by decide) _ _ _ rfl ((ownsRow_later hG4.own hB45).alloc _) ⟨w5.heap.size, 0, none⟩ 1 1 [.int .i64 i, .int .i64 j, .int .i64 xs, .int .i64 xf, .int .i64 xt] rfl rfl cells5_lie one5 (by unfold maxLen; omega) (by omega) (by have h1 := hG4.below.size; have h2 := hB45.size; simp only [World.size_alloc]; omega) ?_) | first | (go_at_call 65; refine hC1.mono ?_; rintro _ w4 ⟨rfl, hB4⟩; replace c0 := cellLater hB4 c0; replace c1 := cellLater hB4 c1; replace c2 := cellLater hB4 c2; replace c3 := cellLater hB4 c3; clear hC1) | (go_at_call 65; refine (hC2 _ hB4).mono ?_; rintro _ w5 ⟨rfl, hB5⟩; have hB45 := Below.join hB4 (Nat.le_refl _) hB5; clear hC2))
                            intro v' w6 hown' hgrow _
                            have hG5 := (hG4.later (Below.join hB45 (Nat.le_refl _) (b1 w5 (.cells #[.int .i64 i, .int .i64 j, .int .i64 xs, .int .i64 xf, .int .i64 xt] 108)))).one (m := ⟨i, j, xs, xf, xt⟩) hown' hgrow
                            clear hown' hgrow
                            go_wp2
                            go_roundw
                            case rel => exact ⟨m + 1, by omega, by go_num, by rw [hst.out, eM.out]; exact hG5⟩
                            case measure => simp [intOf]; omega
                          · have eM : Hid (MM = []) := by unfold Hid; rw [hem.out, e1, e2, if_neg (fun h => hle h.2)]
                            clear hem e1 e2
                            go_wp2_with (first | (go_at_call 65; refine hC1.mono ?_; rintro _ w4 ⟨rfl, hB4⟩; replace c0 := cellLater hB4 c0; replace c1 := cellLater hB4 c1; replace c2 := cellLater hB4 c2; replace c3 := cellLater hB4 c3; clear hC1) | (go_at_call 65; refine (hC2 _ hB4).mono ?_; rintro _ w5 ⟨rfl, hB5⟩; have hB45 := Below.join hB4 (Nat.le_refl _) hB5; clear hC2))
                            go_roundw
                            case rel => exact ⟨m + 1, by omega, by go_num, by rw [hst.out, eM.out, List.append_nil]; exact hG4.later hB45⟩
                            case measure => simp [intOf]; omega
                    · have eM : Hid (MM = []) := by unfold Hid; rw [hem.out, if_neg (fun h => hs h.1)]
                      have hs' : (xs == ys) = false := by simpa using hs
                      clear hem
                      by_cases hf : xf < yf <;> by_cases ht : yt < xt
                      all_goals
                        go_wp2_with (first | (go_at_call 65; refine hC1.mono ?_; rintro _ w4 ⟨rfl, hB4⟩; replace c0 := cellLater hB4 c0; replace c1 := cellLater hB4 c1; replace c2 := cellLater hB4 c2; replace c3 := cellLater hB4 c3; clear hC1) | (go_at_call 65; refine (hC2 _ hB4).mono ?_; rintro _ w5 ⟨rfl, hB5⟩; have hB45 := Below.join hB4 (Nat.le_refl _) hB5; clear hC2))
                        go_roundw
                        case rel => exact ⟨m + 1, by omega, by go_num, by rw [hst.out, eM.out, List.append_nil]; exact hG4.later hB45⟩
                        case measure => simp [intOf]; omega
                  · obtain rfl : m = (f j).nl + 1 := by omega
                    have hm' : ¬ ((((f j).nl + 1 : Nat) : Int) ≤ ((f j).nl : Int)) := by omega
                    go_wp2
                    go_roundw
                    case rel => exact ⟨k + 1, by omega, by go_num, by rw [← hE3.out] at hG4; simpa only [pairM, List.append_assoc] using hG4⟩
                    case measure => simp [intOf]; omega
              · obtain rfl : k = (f i).nl + 1 := by omega
                have hk' : ¬ ((((f i).nl + 1 : Nat) : Int) ≤ ((f i).nl : Int)) := by omega
                go_wp2
                go_roundw
                case rel => exact ⟨j + 1, d + 1, by have := hjd.out; omega, by omega, by go_num, by rw [← hE2.out, hjd.out] at hG3; simpa only [manyM, List.append_assoc] using hG3⟩
                case measure => simp [intOf]; omega
          · obtain rfl : j = np := by omega
            have v2 := cellLater hG2.below x2
            go_wp2
            go_roundw
            case rel => exact ⟨i + 1, by omega, by go_num, by rw [show d = j - (i + 1) by have := hjd.out; omega] at hG2; simpa only [allM] using hG2⟩
            case measure => simp [intOf]; omega
      · obtain rfl : i = np := by omega
        go_wp2
        go_ret
        exact ⟨⟨_, rfl, Joins.ownsRow_le hG.own hB.size⟩, Below.join hB (Nat.le_refl _) hG.below⟩
  · have hA : meetsOf len g gap len' f np P = [] := by unfold meetsOf; rw [if_neg (fun h => hz (by rw [h]))]
    rw [hA]
    clear hA
    generalize clashOf len g gap len' f np P = vq at hz hCh
    obtain ⟨v0, v1, v2, v3⟩ := vq
    dsimp only at hz hCh
    have hz' : (v0 != 0) = true := by simpa using hz
    go_enter Tryz.func31, Tryz.ntmps31
    go_wp2_with (go_at_call 57; refine hCh.mono ?_; rintro _ w2 ⟨rfl, hB2⟩)
    go_ret
    exact ⟨⟨_, rfl, World.ownsRow_nil _ _ _ _⟩, Below.join (Below.join hN (Nat.le_refl _) hB2) (Nat.le_refl _) (b1 _ _)⟩
end Go.Proofs.YtmmkggkneefhoabGreatDoor
