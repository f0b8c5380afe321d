/-
  The model's Arrives: what it answers.
-/
import Derived.Test.YthnlkpifafklkaaGreatDoorSpecQ
namespace Go.Proofs.YthnlkpifafklkaaGreatDoor
open Go.RowKit

set_option maxHeartbeats 4000000 in
theorem specArrives_any (a : Option Addr) (len cap : Nat) (g : Nat → Int) (gap : Int) (a' : Option Addr) (len' cap' : Nat) (f : Nat → TrainD) (c : Option Addr) (np nc : Nat) (P : Nat → RowD) (i : Int) (w : World)
    (hl : len ≤ 1048576) (hl' : len' ≤ 1048576) (hml : ∀ j, j < len' → (f j).nl ≤ 1048576) (hp : np ≤ 1048576) (hmp : ∀ j, j < np → (P j).n ≤ 1048576) (hI : IsInts 0 w.heap.size w a len g) (hT : IsTrains 0 w.heap.size w a' len' f) (hP : IsRows 0 w.heap.size w c np P) :
    Calls Tryz.prog 53 #[.agg #[.slice a len cap, .int .i64 gap, .slice a' len' cap'], .agg #[.slice c np nc], .int .i64 i] w fun e w' => e = .returned (.int .i64 (arrivesOf len g gap len' f np P i)) ∧ Below w.heap.size w w' := by
  obtain ⟨y0, y1, y2, u0⟩ := box2 w a len cap gap a' len' cap' c np nc 35 29
  by_cases hF : (faultOf len g gap len' f).1 = 0
  · have hF0 := faultOf_snd hF
    have hR := rightL_of hF0
    have hF1 : Hid (faultOf len g gap len' f = (0, 0)) := hF0
    cases hS : shapeB len' f np P
    · have hA : arrivesOf len g gap len' f np P i = -1 := by unfold arrivesOf; rw [if_neg (by simp [hS])]
      rw [hA]
      clear hF hF0 hA
      go_enter Tryz.func53, Tryz.ntmps53
      go_wp2_with (first | (go_at_call 30; refine (l1ok_yes _ _ _ g _ _ _ _ f _ hl hl' hml (hI.grow (b2 _ _ _)) (hT.grow (b2 _ _ _)) hF1).mono ?_; rintro e w2 ⟨rfl, hB2⟩; have hBx := Below.join (b2 w _ _) (Nat.le_refl _) hB2; have x0 := cellLater hB2 y0; have x1 := cellLater hB2 y1; have x2 := cellLater hB2 y2; have z0 := cellLater hB2 u0) | (go_at_call 82; refine (l2shape_any _ _ _ _ _ _ _ f _ _ _ P _ hl' hp hml hmp (hT.grow hBx) (hP.grow hBx)).mono ?_; rw [hS]; rintro e w3 ⟨rfl, hB3⟩; replace hBx := Below.join hBx (Nat.le_refl _) hB3; replace x0 := cellLater hB3 x0; replace x1 := cellLater hB3 x1; replace x2 := cellLater hB3 x2; replace z0 := cellLater hB3 z0))
      go_ret
      exact ⟨rfl, hBx⟩
    · have hQ := rightP_of hS
      cases hi : inB i 0 (len' - 1)
      · have hA : arrivesOf len g gap len' f np P i = -1 := by unfold arrivesOf; rw [if_neg (by simp [hi])]
        rw [hA]
        clear hF hF0 hA
        go_enter Tryz.func53, Tryz.ntmps53
        go_wp2_with (first | (go_at_call 30; refine (l1ok_yes _ _ _ g _ _ _ _ f _ hl hl' hml (hI.grow (b2 _ _ _)) (hT.grow (b2 _ _ _)) hF1).mono ?_; rintro e w2 ⟨rfl, hB2⟩; have hBx := Below.join (b2 w _ _) (Nat.le_refl _) hB2; have x0 := cellLater hB2 y0; have x1 := cellLater hB2 y1; have x2 := cellLater hB2 y2; have z0 := cellLater hB2 u0) | (go_at_call 82; refine (l2shape_any _ _ _ _ _ _ _ f _ _ _ P _ hl' hp hml hmp (hT.grow hBx) (hP.grow hBx)).mono ?_; rw [hS]; rintro e w3 ⟨rfl, hB3⟩; replace hBx := Below.join hBx (Nat.le_refl _) hB3; replace x0 := cellLater hB3 x0; replace x1 := cellLater hB3 x1; replace x2 := cellLater hB3 x2; replace z0 := cellLater hB3 z0) | (go_at_call 32; refine (l1in_any _ _ _ _).mono ?_; rintro e w' ⟨rfl, rfl⟩))
        go_ret
        exact ⟨rfl, hBx⟩
      · have hA : arrivesOf len g gap len' f np P i = (P i.toNat).s ((f i.toNat).nl - 1) + ((f i.toNat).leg ((f i.toNat).nl - 1)).run := by unfold arrivesOf; rw [if_pos ⟨hF, hS, hi⟩]
        rw [hA]
        have hib := of_decide_eq_true hi
        obtain ⟨k, rfl⟩ : ∃ k : Nat, i = (k : Int) := ⟨i.toNat, by omega⟩
        rw [Int.toNat_natCast]
        have hk : k < len' := by omega
        obtain ⟨e, he⟩ : ∃ e, (f k).nl = e + 1 := ⟨(f k).nl - 1, by have := hR.pos k hk; omega⟩
        rw [he, Nat.add_sub_cancel]
        clear hF hF0 hA hib
        obtain rfl : np = len' := hQ.np
        have htr := hR.tr
        have hRk := hR.train k hk
        have hnl := hRk.nl
        have hk' : (k : Int) < (np : Int) := by omega
        obtain ⟨l0, l1, l2, l3⟩ := hRk.leg e (by omega)
        obtain ⟨s0, s1⟩ := hQ.at0 k hk e (by omega)
        obtain ⟨b, off, la, lc, rfl, _, hb, t0, t1, t2, t3, t4, hlg, _⟩ := hT k hk
        obtain ⟨bl, ol, rfl, _, hbl, g0, g1, g2⟩ := hlg e (by omega)
        obtain ⟨bp, op, lp, lpc, rfl, _, hbp, p0, hin, _⟩ := hP k hk
        rw [hQ.row k hk, he] at p0 hin
        rw [he] at t4
        obtain ⟨bi, oi, rfl, _, hbi, q0⟩ := hin e (by omega)
        have he10 : e ≤ 9 := by omega
        have hn0 : (0 : Int) ≤ (e : Int) := by omega
        have he1 : (e : Int) < (e : Int) + 1 := by omega
        have he2 : (e : Int) < ((e + 1 : Nat) : Int) := by omega
        clear he
        go_enter Tryz.func53, Tryz.ntmps53
        go_wp2_with (first | (go_at_call 30; refine (l1ok_yes _ _ _ g _ _ _ _ f _ hl hl' hml (hI.grow (b2 _ _ _)) (hT.grow (b2 _ _ _)) hF1).mono ?_; rintro _ w2 ⟨rfl, hB2⟩; have hBx := Below.join (b2 w _ _) (Nat.le_refl _) hB2; have x0 := cellLater hB2 y0; have x1 := cellLater hB2 y1; have x2 := cellLater hB2 y2; have z0 := cellLater hB2 u0; replace p0 := cellLater hBx p0; replace q0 := cellLater hBx q0; replace g1 := cellLater hBx g1; replace t4 := cellLater hBx t4) | (go_at_call 82; refine (l2shape_any _ _ _ _ _ _ _ f _ _ _ P _ hl' hp hml hmp (hT.grow hBx) (hP.grow hBx)).mono ?_; rw [hS]; rintro _ w3 ⟨rfl, hB3⟩; replace hBx := Below.join hBx (Nat.le_refl _) hB3; replace x0 := cellLater hB3 x0; replace x1 := cellLater hB3 x1; replace x2 := cellLater hB3 x2; replace z0 := cellLater hB3 z0; replace p0 := cellLater hB3 p0; replace q0 := cellLater hB3 q0; replace g1 := cellLater hB3 g1; replace t4 := cellLater hB3 t4) | (go_at_call 32; refine (l1in_any _ _ _ _).mono ?_; rintro _ w' ⟨rfl, rfl⟩))
        go_region_held3 (fun w' => w'.cell? ⟨w.heap.size + 1, 0, none⟩ = some (.slice (some ⟨bp, op, none⟩) np nc) ∧ w'.cell? ⟨bp, op + k, none⟩ = some (.slice (some ⟨bi, oi, none⟩) (e + 1) lpc) ∧ w'.cell? ⟨bi, oi + e, none⟩ = some (.int .i64 ((P k).s e)) ∧ w'.cell? ⟨w.heap.size, 2, none⟩ = some (.slice (some ⟨b, off, none⟩) np cap') ∧ w'.cell? ⟨b, off + k * 5 + 4, none⟩ = some (.slice (some ⟨bl, ol, none⟩) (e + 1) lc) ∧ w'.cell? ⟨bl, ol + e * 3 + 1, none⟩ = some (.int .i64 ((f k).leg e).run)) (go_keep) (fail)
        go_wp2
        go_ret
        exact ⟨ret_int (by rw [IntKind.wrap_i64]; omega), hBx.drew⟩
  · have hA : arrivesOf len g gap len' f np P i = -1 := by unfold arrivesOf; rw [if_neg (by simp [hF])]
    rw [hA]
    have hF1 : Hid ((faultOf len g gap len' f).1 ≠ 0) := hF
    clear hF hA
    go_enter Tryz.func53, Tryz.ntmps53
    go_wp2_with (go_at_call 30; refine (l1ok_no _ _ _ g _ _ _ _ f _ hl hl' hml (hI.grow (b2 _ _ _)) (hT.grow (b2 _ _ _)) hF1.out).mono ?_; rintro e w2 ⟨rfl, hB2⟩)
    go_ret
    exact ⟨rfl, Below.join (b2 _ _ _) (Nat.le_refl _) hB2⟩
end Go.Proofs.YthnlkpifafklkaaGreatDoor
