/-
  The program's Arrives: what it answers.
-/
import Derived.Test.YtnkcolffjkjclabDoorImplP
namespace Go.Proofs.YtnkcolffjkjclabDoor
open Go.RowKit

set_option maxHeartbeats 4000000 in
set_option maxRecDepth 20000 in
theorem implArrives_any (a : Option Addr) (len cap : Nat) (g : Nat → Int) (gap : Int) (a' : Option Addr) (len' cap' : Nat) (f : Nat → TrainD) (c : Option Addr) (np nc : Nat) (P : Nat → RowD) (i : Int) (w : World)
    (hl : len ≤ 1048576) (hl' : len' ≤ 1048576) (hml : ∀ j, j < len' → (f j).nl ≤ 1048576) (hp : np ≤ 1048576) (hmp : ∀ j, j < np → (P j).n ≤ 1048576) (hI : IsInts 0 w.heap.size w a len g) (hT : IsTrains 0 w.heap.size w a' len' f) (hP : IsRows 0 w.heap.size w c np P)
    (hg : w.cell? ⟨0, 0, none⟩ = some (.iface 120 (.agg #[.pointer (some ⟨1, 101, none⟩)]))) :
    Calls Tryd.prog 16 #[.agg #[.slice a len cap, .int .i64 gap, .slice a' len' cap'], .agg #[.slice c np nc], .int .i64 i] w fun e w' => e = .returned (.int .i64 (arrivesOf len g gap len' f np P i)) ∧ Below w.heap.size w w' := by
  obtain ⟨y0, y1, y2, u0⟩ := box2 w a len cap gap a' len' cap' c np nc 36 38
  have hg1 := cellLater (b2 w (.cells #[.slice a len cap, .int .i64 gap, .slice a' len' cap'] 36) (.cells #[.slice c np nc] 38)) hg
  by_cases hF : (faultOf len g gap len' f).1 = 0
  · have hF0 := faultOf_snd hF
    have hR := rightL_of hF0
    have hF1 : Hid (faultOf len g gap len' f = (0, 0)) := hF0
    cases hS : shapeB len' f np P
    · have hA : arrivesOf len g gap len' f np P i = -1 := by unfold arrivesOf; rw [if_neg (by simp [hS])]
      rw [hA]
      clear hF hF0 hA
      go_enter Tryd.func16, Tryd.ntmps16
      go_wp2_with (go_at_call 30; refine (hasShape_yes _ _ _ g _ _ _ _ f _ _ _ P _ hl hl' hp hml hmp (hI.grow (b2 _ _ _)) (hT.grow (b2 _ _ _)) (hP.grow (b2 _ _ _)) hg1 hF1).mono ?_; rw [hS]; rintro e w3 ⟨rfl, hB3⟩)
      go_ret
      exact ⟨rfl, Below.join (b2 _ _ _) (Nat.le_refl _) hB3⟩
    · have hQ := rightP_of hS
      cases hi : inB i 0 (len' - 1)
      · have hA : arrivesOf len g gap len' f np P i = -1 := by unfold arrivesOf; rw [if_neg (by simp [hi])]
        rw [hA]
        clear hF hF0 hA
        go_enter Tryd.func16, Tryd.ntmps16
        go_wp2_with (first | (go_at_call 30; refine (hasShape_yes _ _ _ g _ _ _ _ f _ _ _ P _ hl hl' hp hml hmp (hI.grow (b2 _ _ _)) (hT.grow (b2 _ _ _)) (hP.grow (b2 _ _ _)) hg1 hF1).mono ?_; rw [hS]; rintro e w3 ⟨rfl, hB3⟩; have x2 := cellLater hB3 y2; have z0 := cellLater hB3 u0) | (go_at_call 41; refine (within_any _ _ _ _).mono ?_; rintro e w' ⟨rfl, rfl⟩))
        go_ret
        exact ⟨rfl, Below.join (b2 _ _ _) (Nat.le_refl _) hB3⟩
      · have hA : arrivesOf len g gap len' f np P i = (P i.toNat).s ((f i.toNat).nl - 1) + ((f i.toNat).leg ((f i.toNat).nl - 1)).run := by unfold arrivesOf; rw [if_pos ⟨hF, hS, hi⟩]
        rw [hA]
        have hib := of_decide_eq_true hi
        obtain ⟨k, rfl⟩ : ∃ k : Nat, i = (k : Int) := ⟨i.toNat, by omega⟩
        rw [Int.toNat_natCast]
        have hk : k < len' := by omega
        obtain ⟨e, he⟩ : ∃ e, (f k).nl = e + 1 := ⟨(f k).nl - 1, by have := hR.pos k hk; omega⟩
        rw [he, Nat.add_sub_cancel]
        clear hF hF0 hA hib
        obtain rfl : np = len' := hQ.np
        have htr := hR.tr
        have hRk := hR.train k hk
        have hk' : (k : Int) < (np : Int) := by omega
        have hk0 : (0 : Int) ≤ (k : Int) := by omega
        obtain ⟨s0, s1⟩ := hQ.at0 k hk e (by omega)
        obtain ⟨b, off, la, lc, rfl, _, hb, t0, t1, t2, t3, t4, hlg, _⟩ := hT k hk
        obtain ⟨bp, op, lp, lpc, rfl, _, hbp, p0, hin, _⟩ := hP k hk
        rw [hQ.row k hk, he] at p0 hin
        have hlt : e < (f k).nl := by omega
        clear he
        go_enter Tryd.func16, Tryd.ntmps16
        go_wp2_with (first | (go_at_call 30; refine (hasShape_yes _ _ _ g _ _ _ _ f _ _ _ P _ hl hl' hp hml hmp (hI.grow (b2 _ _ _)) (hT.grow (b2 _ _ _)) (hP.grow (b2 _ _ _)) hg1 hF1).mono ?_; rw [hS]; rintro _ w3 ⟨rfl, hB3⟩; have hBx := Below.join (b2 w _ _) (Nat.le_refl _) hB3; have x2 := cellLater hB3 y2; have z0 := cellLater hB3 u0; replace p0 := cellLater hBx p0; replace t0 := cellLater hBx t0; replace t1 := cellLater hBx t1; replace t2 := cellLater hBx t2; replace t3 := cellLater hBx t3; replace t4 := cellLater hBx t4; replace hlg := hlg.grow hBx.drew; replace hin := hin.grow hBx.drew) | (go_at_call 41; refine (within_any _ _ _ _).mono ?_; rintro _ w' ⟨rfl, rfl⟩))
        go_region_held3 (fun w' => w'.cell? ⟨w.heap.size, 2, none⟩ = some (.slice (some ⟨b, off, none⟩) np cap') ∧ w'.cell? ⟨b, off + k * 5, none⟩ = some (.int .i64 (f k).frm) ∧ w'.cell? ⟨b, off + k * 5 + 1, none⟩ = some (.int .i64 (f k).ready) ∧ w'.cell? ⟨b, off + k * 5 + 2, none⟩ = some (.int .i64 (f k).due) ∧ w'.cell? ⟨b, off + k * 5 + 3, none⟩ = some (.int .i64 (f k).weight) ∧ w'.cell? ⟨b, off + k * 5 + 4, none⟩ = some (.slice la (f k).nl lc) ∧ w'.cell? ⟨w.heap.size + 1, 0, none⟩ = some (.slice (some ⟨bp, op, none⟩) np nc) ∧ w'.cell? ⟨bp, op + k, none⟩ = some (.slice lp (e + 1) lpc)) (first | go_keep | (go_split_ands; refine ⟨?_, ?_, ?_, ?_, ?_, ?_, ?_, ?_⟩ <;> exact cellLater hB4 (by assumption))) ((go_at_call 42; refine (end_any (f k) e _ _ (P k).s _ _ _ hlt hRk s0 s1 hlg hin).mono ?_; rintro _ w4 ⟨rfl, hB4⟩))
        go_wp2
        go_ret
        exact ⟨rfl, Below.join hBx.drew (Nat.le_refl _) hB4⟩
  · have hA : arrivesOf len g gap len' f np P i = -1 := by unfold arrivesOf; rw [if_neg (by simp [hF])]
    rw [hA]
    have hF1 : Hid ((faultOf len g gap len' f).1 ≠ 0) := hF
    clear hF hA
    go_enter Tryd.func16, Tryd.ntmps16
    go_wp2_with (go_at_call 30; refine (hasShape_no _ _ _ g _ _ _ _ f _ _ _ _ hl hl' hml (hI.grow (b2 _ _ _)) (hT.grow (b2 _ _ _)) hg1 hF1).mono ?_; rintro e w2 ⟨rfl, hB2⟩)
    go_ret
    exact ⟨rfl, Below.join (b2 _ _ _) (Nat.le_refl _) hB2⟩
end Go.Proofs.YtnkcolffjkjclabDoor
