/-
  The model's small functions of the second chapter: what each answers.
-/
import Derived.Test.YtelickcfodcmaaaGreatDoorPlainP
import Derived.Test.YtelickcfodcmaaaGreatDoorSpecK
import Derived.Deep.RegionHeld3
namespace Go.Proofs.YtelickcfodcmaaaGreatDoor
open Go.RowKit

theorem ret_int {a b : Int} (h : a = b) : Ending.returned (.int .i64 a) = .returned (.int .i64 b) := by rw [h]

theorem l2at_any (t : TrainD) (k : Nat) (la : Option Addr) (lc : Nat) (w : World) (hk : k ≤ t.nl) (hn : t.nl ≤ 10) (hL : IsLegs 0 w.heap.size w la t.nl t.leg) :
    Calls Tryz.prog 63 #[.agg #[.int .i64 t.frm, .int .i64 t.ready, .int .i64 t.due, .int .i64 t.weight, .slice la t.nl lc], .int .i64 k] w fun e w' => e = .returned (.int .i64 (cur t k)) ∧ Below w.heap.size w w' := by
  cases k with
  | zero =>
    go_enter Tryz.func63, Tryz.ntmps63
    go_wp2
    go_ret
    exact ⟨rfl, b1 _ _⟩
  | succ k =>
    have e0 : ((k + 1 : Nat) : Int) = (k : Int) + 1 := by omega
    rw [e0]
    have hz : ((k : Int) + 1 == 0) = false := by simp; omega
    obtain ⟨b, off, rfl, _, hb, c0, c1, c2⟩ := hL k (by omega)
    have hk' : (k : Int) < (t.nl : Int) := by omega
    go_enter Tryz.func63, Tryz.ntmps63
    go_wp2
    go_ret
    exact ⟨rfl, b1 _ _⟩

set_option maxHeartbeats 1000000 in
theorem l2track_any (t : TrainD) (k : Nat) (la : Option Addr) (lc : Nat) (w : World) (hk : k < t.nl) (hn : t.nl ≤ 10) (hL : IsLegs 0 w.heap.size w la t.nl t.leg) :
    Calls Tryz.prog 32 #[.agg #[.int .i64 t.frm, .int .i64 t.ready, .int .i64 t.due, .int .i64 t.weight, .slice la t.nl lc], .int .i64 k] w fun e w' => e = .returned (.int .i64 (trackOf t k)) ∧ Below w.heap.size w w' := by
  have hL1 := hL.grow (b1 w (.cells #[.int .i64 t.frm, .int .i64 t.ready, .int .i64 t.due, .int .i64 t.weight, .slice la t.nl lc] 72))
  obtain ⟨b, off, rfl, _, hb, c0, c1, c2⟩ := hL k hk
  have hk' : (k : Int) < (t.nl : Int) := by omega
  unfold trackOf
  by_cases hlt : (t.leg k).to < cur t k
  · rw [if_pos hlt]
    go_enter Tryz.func32, Tryz.ntmps32
    go_wp2_with (go_at_call 63; refine (l2at_any t k _ _ _ (by omega) hn hL1).mono ?_; rintro e w2 ⟨rfl, hB2⟩; obtain ⟨hc, hf⟩ := bcell hB2)
    go_ret
    exact ⟨rfl, Below.join (b1 _ _) (Nat.le_refl _) hB2⟩
  · rw [if_neg hlt]
    go_enter Tryz.func32, Tryz.ntmps32
    go_wp2_with (go_at_call 63; refine (l2at_any t k _ _ _ (by omega) hn hL1).mono ?_; rintro e w2 ⟨rfl, hB2⟩; obtain ⟨hc, hf⟩ := bcell hB2)
    go_ret
    exact ⟨rfl, Below.join (b1 _ _) (Nat.le_refl _) hB2⟩

set_option maxHeartbeats 2000000 in
theorem l2ready_any (a : Option Addr) (len cap : Nat) (gap : Int) (a' : Option Addr) (len' cap' : Nat) (f : Nat → TrainD) (c : Option Addr) (np nc : Nat) (P : Nat → RowD) (i k : Nat) (w : World)
    (hR : RightL len len' f) (hQ : RightP len' f np P) (hi : i < len') (hk : k < (f i).nl) (hT : IsTrains 0 w.heap.size w a' len' f) (hP : IsRows 0 w.heap.size w c np P) :
    Calls Tryz.prog 31 #[.agg #[.slice a len cap, .int .i64 gap, .slice a' len' cap'], .agg #[.slice c np nc], .int .i64 i, .int .i64 k] w fun e w' => e = .returned (.int .i64 (readyOf f P i k)) ∧ Below w.heap.size w w' := by
  obtain rfl : np = len' := hQ.np
  have htr := hR.tr
  have hRi := hR.train i hi
  have hr0 := hRi.r0
  have hr1 := hRi.r1
  have hnl := hRi.nl
  have hi' : (i : Int) < (np : Int) := by omega
  obtain ⟨b, off, la, lc, rfl, _, hb, t0, t1, t2, t3, t4, hlg, _⟩ := hT i hi
  cases k with
  | zero =>
    obtain ⟨l0, l1, l2, l3⟩ := hRi.leg 0 hk
    obtain ⟨bl, ol, rfl, _, hbl, g0, g1, g2⟩ := hlg 0 hk
    have hk0 : (0 : Int) < ((f i).nl : Int) := by omega
    simp only [Nat.zero_mul, Nat.add_zero] at g0 g1 g2
    go_enter Tryz.func31, Tryz.ntmps31
    go_wp2
    refine nameW fun W3 hW3 => ?_
    have hB3 : Below w.heap.size w W3 := hW3 ▸ b3 _ _ _ _
    have x1 : W3.cell? ⟨w.heap.size + 1 + 1, 1, none⟩ = some (.int .i64 (f i).ready) := by rw [hW3, World.cell?_alloc_at _ _ _ _ (by simp)]; rfl
    have x4 : W3.cell? ⟨w.heap.size + 1 + 1, 4, none⟩ = some (.slice (some ⟨bl, ol, none⟩) (f i).nl lc) := by rw [hW3, World.cell?_alloc_at _ _ _ _ (by simp)]; rfl
    replace g2 := cellLater hB3 g2
    clear hW3
    go_region_held3 (fun w' => w'.cell? ⟨w.heap.size + 1 + 1, 1, none⟩ = some (.int .i64 (f i).ready) ∧ w'.cell? ⟨w.heap.size + 1 + 1, 4, none⟩ = some (.slice (some ⟨bl, ol, none⟩) (f i).nl lc) ∧ w'.cell? ⟨bl, ol + 2, none⟩ = some (.int .i64 ((f i).leg 0).stay)) (go_keep) (fail)
    go_wp2
    go_ret
    exact ⟨ret_int (by rw [IntKind.wrap_i64]; simp only [readyOf]; omega), hB3.drew⟩
  | succ k =>
    have e0 : ((k + 1 : Nat) : Int) = (k : Int) + 1 := by omega
    rw [e0]
    have hz : ((k : Int) + 1 == 0) = false := by simp; omega
    obtain ⟨l0, l1, l2, l3⟩ := hRi.leg k (by omega)
    obtain ⟨l4, l5, l6, l7⟩ := hRi.leg (k + 1) hk
    obtain ⟨s0, s1⟩ := hQ.at0 i hi k (by omega)
    obtain ⟨bl, ol, rfl, _, hbl, g0, g1, g2⟩ := hlg k (by omega)
    obtain ⟨bl', ol', el, _, _, g0', g1', g2'⟩ := hlg (k + 1) hk
    simp only [Option.some.injEq, Addr.mk.injEq] at el
    obtain ⟨rfl, rfl, _⟩ := el
    obtain ⟨bp, op, lp, lpc, rfl, _, hbp, p0, hin, _⟩ := hP i hi
    rw [hQ.row i hi] at p0 hin
    obtain ⟨bi, oi, rfl, _, hbi, q0⟩ := hin k (by omega)
    have hk1 : (k : Int) + 1 < ((f i).nl : Int) := by omega
    have hk2 : (k : Int) < ((f i).nl : Int) := by omega
    have hw1 : IntKind.i64.wrap ((k : Int) + 1 - 1) = (k : Int) := by rw [IntKind.wrap_i64]; omega
    have hw2 : IntKind.i64.wrap (k : Int) = (k : Int) := by rw [IntKind.wrap_i64]; omega
    have hn0 : (0 : Int) ≤ (k : Int) := by omega
    have hn1 : (0 : Int) ≤ (k : Int) + 1 := by omega
    have hn2 : ((k : Int) + 1).toNat = k + 1 := by omega
    go_enter Tryz.func31, Tryz.ntmps31
    go_wp2
    refine nameW fun W3 hW3 => ?_
    have hB3 : Below w.heap.size w W3 := hW3 ▸ b3 _ _ _ _
    have x0 : W3.cell? ⟨w.heap.size + 1, 0, none⟩ = some (.slice (some ⟨bp, op, none⟩) np nc) := by rw [hW3, World.cell?_alloc_lt _ _ ⟨w.heap.size + 1, 0, none⟩ (by simp), World.cell?_alloc_at _ _ _ _ (by simp)]; rfl
    have x4 : W3.cell? ⟨w.heap.size + 1 + 1, 4, none⟩ = some (.slice (some ⟨bl, ol, none⟩) (f i).nl lc) := by rw [hW3, World.cell?_alloc_at _ _ _ _ (by simp)]; rfl
    replace p0 := cellLater hB3 p0
    replace q0 := cellLater hB3 q0
    replace g1 := cellLater hB3 g1
    replace g2' := cellLater hB3 g2'
    clear hW3
    go_region_held3 (fun w' => w'.cell? ⟨w.heap.size + 1, 0, none⟩ = some (.slice (some ⟨bp, op, none⟩) np nc) ∧ w'.cell? ⟨bp, op + i, none⟩ = some (.slice (some ⟨bi, oi, none⟩) (f i).nl lpc) ∧ w'.cell? ⟨bi, oi + k, none⟩ = some (.int .i64 ((P i).s k)) ∧ w'.cell? ⟨w.heap.size + 1 + 1, 4, none⟩ = some (.slice (some ⟨bl, ol, none⟩) (f i).nl lc) ∧ w'.cell? ⟨bl, ol + k * 3 + 1, none⟩ = some (.int .i64 ((f i).leg k).run) ∧ w'.cell? ⟨bl, ol + (k + 1) * 3 + 2, none⟩ = some (.int .i64 ((f i).leg (k + 1)).stay)) (go_keep) (fail)
    go_wp2
    go_ret
    exact ⟨ret_int (by rw [IntKind.wrap_i64, IntKind.wrap_i64]; simp only [readyOf]; omega), hB3.drew⟩

set_option maxHeartbeats 2000000 in
theorem l2leaves_any (a : Option Addr) (len cap : Nat) (gap : Int) (a' : Option Addr) (len' cap' : Nat) (f : Nat → TrainD) (c : Option Addr) (np nc : Nat) (P : Nat → RowD) (i k : Nat) (w : World)
    (hR : RightL len len' f) (hQ : RightP len' f np P) (hi : i < len') (hk : k < (f i).nl) (hT : IsTrains 0 w.heap.size w a' len' f) (hP : IsRows 0 w.heap.size w c np P) :
    Calls Tryz.prog 64 #[.agg #[.slice a len cap, .int .i64 gap, .slice a' len' cap'], .agg #[.slice c np nc], .int .i64 i, .int .i64 k] w fun e w' => e = .returned (.int .i64 (leavesOf f P i k)) ∧ Below w.heap.size w w' := by
  obtain rfl : np = len' := hQ.np
  have htr := hR.tr
  have hRi := hR.train i hi
  have hnl := hRi.nl
  have hi' : (i : Int) < (np : Int) := by omega
  obtain ⟨b, off, la, lc, rfl, _, hb, t0, t1, t2, t3, t4, hlg, _⟩ := hT i hi
  obtain ⟨l0, l1, l2, l3⟩ := hRi.leg k hk
  obtain ⟨bl, ol, rfl, _, hbl, g0, g1, g2⟩ := hlg k hk
  obtain ⟨bp, op, lp, lpc, rfl, _, hbp, p0, hin, _⟩ := hP i hi
  have hrow := hQ.row i hi
  rw [hrow] at p0 hin
  have hk2 : (k : Int) < ((f i).nl : Int) := by omega
  have hn0 : (0 : Int) ≤ (k : Int) := by omega
  have hn1 : (0 : Int) ≤ (k : Int) + 1 := by omega
  have hn2 : ((k : Int) + 1).toNat = k + 1 := by omega
  obtain ⟨s0, s1⟩ := hQ.at0 i hi k hk
  by_cases hm : k + 1 < (f i).nl
  · have hL : leavesOf f P i k = (P i).s (k + 1) := by unfold leavesOf; rw [if_pos (by omega)]
    rw [hL]
    clear hL hrow
    obtain ⟨bi, oi, rfl, _, hbi, q0⟩ := hin (k + 1) hm
    have hk1 : (k : Int) + 1 < ((f i).nl : Int) := by omega
    go_enter Tryz.func64, Tryz.ntmps64
    go_wp2
    go_ret
    exact ⟨rfl, b2 _ _ _⟩
  · have hL : leavesOf f P i k = (P i).s k + ((f i).leg k).run := by unfold leavesOf; rw [if_neg (by omega)]
    rw [hL]
    clear hL hrow
    obtain ⟨bi, oi, rfl, _, hbi, q0⟩ := hin k hk
    have hk1 : ((f i).nl : Int) ≤ (k : Int) + 1 := by omega
    go_enter Tryz.func64, Tryz.ntmps64
    go_wp2
    refine nameW fun W3 hW3 => ?_
    have hB3 : Below w.heap.size w W3 := hW3 ▸ b2 _ _ _
    have x0 : W3.cell? ⟨w.heap.size + 1, 0, none⟩ = some (.slice (some ⟨bp, op, none⟩) np nc) := by rw [hW3, World.cell?_alloc_at _ _ _ _ (by simp)]; rfl
    have x2 : W3.cell? ⟨w.heap.size, 2, none⟩ = some (.slice (some ⟨b, off, none⟩) np cap') := by rw [hW3, World.cell?_alloc_lt _ _ ⟨w.heap.size, 2, none⟩ (by simp)]; exact (new3 _ _ _ _ _).2.2
    replace p0 := cellLater hB3 p0
    replace q0 := cellLater hB3 q0
    replace g1 := cellLater hB3 g1
    replace t4 := cellLater hB3 t4
    clear hW3
    go_region_held3 (fun w' => w'.cell? ⟨w.heap.size + 1, 0, none⟩ = some (.slice (some ⟨bp, op, none⟩) np nc) ∧ w'.cell? ⟨bp, op + i, none⟩ = some (.slice (some ⟨bi, oi, none⟩) (f i).nl lpc) ∧ w'.cell? ⟨bi, oi + k, none⟩ = some (.int .i64 ((P i).s k)) ∧ w'.cell? ⟨w.heap.size, 2, none⟩ = some (.slice (some ⟨b, off, none⟩) np cap') ∧ w'.cell? ⟨b, off + i * 5 + 4, none⟩ = some (.slice (some ⟨bl, ol, none⟩) (f i).nl lc) ∧ w'.cell? ⟨bl, ol + k * 3 + 1, none⟩ = some (.int .i64 ((f i).leg k).run)) (go_keep) (fail)
    go_wp2
    go_ret
    exact ⟨ret_int (by rw [IntKind.wrap_i64]; omega), hB3.drew⟩
end Go.Proofs.YtelickcfodcmaaaGreatDoor
