/-
  The model's Arrives: what it answers.
  The model's Diagram: what it answers.
  The law of texts: walked.
  From the reading of an argument to its cells: bytes.
  The statement of the law of texts: the row, and its card.
-/
import Derived.Test.YtnjaegeapcijpaaGreatDoorSpecQ
import Derived.Test.YtnjaegeapcijpaaGreatDoorGG
import Derived.Test.YtnjaegeapcijpaaGreatDoorGE
import Derived.Test.YtnjaegeapcijpaaGreatDoorGJ
import Derived.Test.YtnjaegeapcijpaaGreatDoorGB
import Derived.Test.YtnjaegeapcijpaaGreatDoorGH
import Derived.Test.YtnjaegeapcijpaaGreatDoorGI
import Derived.Test.YtnjaegeapcijpaaGreatDoorGK
import Derived.Deep.RegionHeld3
import Derived.Test.YtnjaegeapcijpaaGreatDoorGA
import Derived.ChangeVars
import Derived.Deep.DeepWitnessRowRef
namespace Go.Proofs.YtnjaegeapcijpaaGreatDoor
open Go.RowKit

set_option maxHeartbeats 4000000 in
theorem specArrives_any (a : Option Addr) (len cap : Nat) (g : Nat → Int) (gap : Int) (a' : Option Addr) (len' cap' : Nat) (f : Nat → TrainD) (c : Option Addr) (np nc : Nat) (P : Nat → RowD) (i : Int) (w : World)
    (hl : len ≤ 1048576) (hl' : len' ≤ 1048576) (hml : ∀ j, j < len' → (f j).nl ≤ 1048576) (hp : np ≤ 1048576) (hmp : ∀ j, j < np → (P j).n ≤ 1048576) (hI : IsInts 0 w.heap.size w a len g) (hT : IsTrains 0 w.heap.size w a' len' f) (hP : IsRows 0 w.heap.size w c np P) :
    Calls Tryz.prog 53 #[.agg #[.slice a len cap, .int .i64 gap, .slice a' len' cap'], .agg #[.slice c np nc], .int .i64 i] w fun e w' => e = .returned (.int .i64 (arrivesOf len g gap len' f np P i)) ∧ Below w.heap.size w w' := by
  obtain ⟨y0, y1, y2, u0⟩ := box2 w a len cap gap a' len' cap' c np nc 26 30
  by_cases hF : (faultOf len g gap len' f).1 = 0
  · have hF0 := faultOf_snd hF
    have hR := rightL_of hF0
    have hF1 : Hid (faultOf len g gap len' f = (0, 0)) := hF0
    cases hS : shapeB len' f np P
    · have hA : arrivesOf len g gap len' f np P i = -1 := by unfold arrivesOf; rw [if_neg (by simp [hS])]
      rw [hA]
      clear hF hF0 hA
      go_enter Tryz.func53, Tryz.ntmps53
      go_wp2_with (first | (go_at_call 29; refine (l1ok_yes _ _ _ g _ _ _ _ f _ hl hl' hml (hI.grow (b2 _ _ _)) (hT.grow (b2 _ _ _)) hF1).mono ?_; rintro e w2 ⟨rfl, hB2⟩; have hBx := Below.join (b2 w _ _) (Nat.le_refl _) hB2; have x0 := cellLater hB2 y0; have x1 := cellLater hB2 y1; have x2 := cellLater hB2 y2; have z0 := cellLater hB2 u0) | (go_at_call 30; refine (l2shape_any _ _ _ _ _ _ _ f _ _ _ P _ hl' hp hml hmp (hT.grow hBx) (hP.grow hBx)).mono ?_; rw [hS]; rintro e w3 ⟨rfl, hB3⟩; replace hBx := Below.join hBx (Nat.le_refl _) hB3; replace x0 := cellLater hB3 x0; replace x1 := cellLater hB3 x1; replace x2 := cellLater hB3 x2; replace z0 := cellLater hB3 z0))
      go_ret
      exact ⟨rfl, hBx⟩
    · have hQ := rightP_of hS
      cases hi : inB i 0 (len' - 1)
      · have hA : arrivesOf len g gap len' f np P i = -1 := by unfold arrivesOf; rw [if_neg (by simp [hi])]
        rw [hA]
        clear hF hF0 hA
        go_enter Tryz.func53, Tryz.ntmps53
        go_wp2_with (first | (go_at_call 29; refine (l1ok_yes _ _ _ g _ _ _ _ f _ hl hl' hml (hI.grow (b2 _ _ _)) (hT.grow (b2 _ _ _)) hF1).mono ?_; rintro e w2 ⟨rfl, hB2⟩; have hBx := Below.join (b2 w _ _) (Nat.le_refl _) hB2; have x0 := cellLater hB2 y0; have x1 := cellLater hB2 y1; have x2 := cellLater hB2 y2; have z0 := cellLater hB2 u0) | (go_at_call 30; refine (l2shape_any _ _ _ _ _ _ _ f _ _ _ P _ hl' hp hml hmp (hT.grow hBx) (hP.grow hBx)).mono ?_; rw [hS]; rintro e w3 ⟨rfl, hB3⟩; replace hBx := Below.join hBx (Nat.le_refl _) hB3; replace x0 := cellLater hB3 x0; replace x1 := cellLater hB3 x1; replace x2 := cellLater hB3 x2; replace z0 := cellLater hB3 z0) | (go_at_call 63; refine (l1in_any _ _ _ _).mono ?_; rintro e w' ⟨rfl, rfl⟩))
        go_ret
        exact ⟨rfl, hBx⟩
      · have hA : arrivesOf len g gap len' f np P i = (P i.toNat).s ((f i.toNat).nl - 1) + ((f i.toNat).leg ((f i.toNat).nl - 1)).run := by unfold arrivesOf; rw [if_pos ⟨hF, hS, hi⟩]
        rw [hA]
        have hib := of_decide_eq_true hi
        obtain ⟨k, rfl⟩ : ∃ k : Nat, i = (k : Int) := ⟨i.toNat, by omega⟩
        rw [Int.toNat_natCast]
        have hk : k < len' := by omega
        obtain ⟨e, he⟩ : ∃ e, (f k).nl = e + 1 := ⟨(f k).nl - 1, by have := hR.pos k hk; omega⟩
        rw [he, Nat.add_sub_cancel]
        clear hF hF0 hA hib
        obtain rfl : np = len' := hQ.np
        have htr := hR.tr
        have hRk := hR.train k hk
        have hnl := hRk.nl
        have hk' : (k : Int) < (np : Int) := by omega
        obtain ⟨l0, l1, l2, l3⟩ := hRk.leg e (by omega)
        obtain ⟨s0, s1⟩ := hQ.at0 k hk e (by omega)
        obtain ⟨b, off, la, lc, rfl, _, hb, t0, t1, t2, t3, t4, hlg, _⟩ := hT k hk
        obtain ⟨bl, ol, rfl, _, hbl, g0, g1, g2⟩ := hlg e (by omega)
        obtain ⟨bp, op, lp, lpc, rfl, _, hbp, p0, hin, _⟩ := hP k hk
        rw [hQ.row k hk, he] at p0 hin
        rw [he] at t4
        obtain ⟨bi, oi, rfl, _, hbi, q0⟩ := hin e (by omega)
        have he10 : e ≤ 9 := by omega
        have hn0 : (0 : Int) ≤ (e : Int) := by omega
        have he1 : (e : Int) < (e : Int) + 1 := by omega
        have he2 : (e : Int) < ((e + 1 : Nat) : Int) := by omega
        clear he
        go_enter Tryz.func53, Tryz.ntmps53
        go_wp2_with (first | (go_at_call 29; refine (l1ok_yes _ _ _ g _ _ _ _ f _ hl hl' hml (hI.grow (b2 _ _ _)) (hT.grow (b2 _ _ _)) hF1).mono ?_; rintro _ w2 ⟨rfl, hB2⟩; have hBx := Below.join (b2 w _ _) (Nat.le_refl _) hB2; have x0 := cellLater hB2 y0; have x1 := cellLater hB2 y1; have x2 := cellLater hB2 y2; have z0 := cellLater hB2 u0; replace p0 := cellLater hBx p0; replace q0 := cellLater hBx q0; replace g1 := cellLater hBx g1; replace t4 := cellLater hBx t4) | (go_at_call 30; refine (l2shape_any _ _ _ _ _ _ _ f _ _ _ P _ hl' hp hml hmp (hT.grow hBx) (hP.grow hBx)).mono ?_; rw [hS]; rintro _ w3 ⟨rfl, hB3⟩; replace hBx := Below.join hBx (Nat.le_refl _) hB3; replace x0 := cellLater hB3 x0; replace x1 := cellLater hB3 x1; replace x2 := cellLater hB3 x2; replace z0 := cellLater hB3 z0; replace p0 := cellLater hB3 p0; replace q0 := cellLater hB3 q0; replace g1 := cellLater hB3 g1; replace t4 := cellLater hB3 t4) | (go_at_call 63; refine (l1in_any _ _ _ _).mono ?_; rintro _ w' ⟨rfl, rfl⟩))
        go_region_held3 (fun w' => w'.cell? ⟨w.heap.size + 1, 0, none⟩ = some (.slice (some ⟨bp, op, none⟩) np nc) ∧ w'.cell? ⟨bp, op + k, none⟩ = some (.slice (some ⟨bi, oi, none⟩) (e + 1) lpc) ∧ w'.cell? ⟨bi, oi + e, none⟩ = some (.int .i64 ((P k).s e)) ∧ w'.cell? ⟨w.heap.size, 2, none⟩ = some (.slice (some ⟨b, off, none⟩) np cap') ∧ w'.cell? ⟨b, off + k * 5 + 4, none⟩ = some (.slice (some ⟨bl, ol, none⟩) (e + 1) lc) ∧ w'.cell? ⟨bl, ol + e * 3 + 1, none⟩ = some (.int .i64 ((f k).leg e).run)) (go_keep) (fail)
        go_wp2
        go_ret
        exact ⟨ret_int (by rw [IntKind.wrap_i64]; omega), hBx.drew⟩
  · have hA : arrivesOf len g gap len' f np P i = -1 := by unfold arrivesOf; rw [if_neg (by simp [hF])]
    rw [hA]
    have hF1 : Hid ((faultOf len g gap len' f).1 ≠ 0) := hF
    clear hF hA
    go_enter Tryz.func53, Tryz.ntmps53
    go_wp2_with (go_at_call 29; refine (l1ok_no _ _ _ g _ _ _ _ f _ hl hl' hml (hI.grow (b2 _ _ _)) (hT.grow (b2 _ _ _)) hF1.out).mono ?_; rintro e w2 ⟨rfl, hB2⟩)
    go_ret
    exact ⟨rfl, Below.join (b2 _ _ _) (Nat.le_refl _) hB2⟩
end Go.Proofs.YtnjaegeapcijpaaGreatDoor

namespace Go.Proofs.YtnjaegeapcijpaaGreatDoor
open Go.RowKit

set_option maxRecDepth 20000 in
set_option maxHeartbeats 8000000 in
theorem specDiag_any (a : Option Addr) (len cap : Nat) (g : Nat → Int) (gap : Int) (a' : Option Addr) (len' cap' : Nat) (f : Nat → TrainD) (c : Option Addr) (np nc : Nat) (P : Nat → RowD) (w : World) (hl : len ≤ 1048576) (hl' : len' ≤ 1048576) (hml : ∀ j, j < len' → (f j).nl ≤ 1048576) (hp : np ≤ 1048576) (hmp : ∀ j, j < np → (P j).n ≤ 1048576)
    (hI : IsInts 0 w.heap.size w a len g) (hT : IsTrains 0 w.heap.size w a' len' f) (hP : IsRows 0 w.heap.size w c np P) :
    Calls Tryz.prog 18 #[.agg #[.slice a len cap, .int .i64 gap, .slice a' len' cap'], .agg #[.slice c np nc]] w fun e w' => e = .returned (.string (ba (diagOf len g gap len' f np P))) ∧ Below w.heap.size w w' := by
  obtain ⟨y0, y1, y2, u0⟩ := box2 w a len cap gap a' len' cap' c np nc 26 30
  have hN := b2 w (.cells #[.slice a len cap, .int .i64 gap, .slice a' len' cap'] 26) (.cells #[.slice c np nc] 30)
  have hCh := specCheck_any a len cap g gap a' len' cap' f c np nc P _ hl hl' hml hp hmp (hI.grow hN) (hT.grow hN) (hP.grow hN)
  rcases clashOf_or len g gap len' f np P with hz | hz
  · have hA : diagOf len g gap len' f np P = diagT f P len' := by unfold diagOf; rw [if_pos hz]
    obtain ⟨hF, hS⟩ := clashOf_ok hz
    have hF0 := faultOf_snd hF
    have hR := rightL_of hF0
    have hQ := rightP_of hS
    obtain rfl : np = len' := hQ.np
    have hAr : ∀ k : Nat, k < np → arrivesOf len g gap np f np P (k : Int) = endP f P k := fun k hk => by
      unfold arrivesOf
      rw [if_pos ⟨hF, hS, decide_eq_true ⟨by omega, by omega⟩⟩, Int.toNat_natCast]
      rfl
    have hSm : ∀ i, i < np → SmallS (f i) (P i) := fun i hi => smallS_of hF0 hS hi
    rw [hA]
    rw [hz] at hCh
    dsimp only at hCh
    clear hA hz hF hF0 hS
    have htr := hR.tr
    go_enter Tryz.func18, Tryz.ntmps18
    go_wp2_with (go_at_call 8; refine hCh.mono ?_; rintro _ w2 ⟨rfl, hB2⟩; have hB := Below.join hN (Nat.le_refl _) hB2; have x0 := cellLater hB2 y0; have x1 := cellLater hB2 y1; have x2 := cellLater hB2 y2; have x3 := cellLater hB2 u0; have lw := ltCell x2)
    have hA1 := b1 w2 (.cells #[.int .i64 0, .int .i64 0, .int .i64 0, .int .i64 0] 33)
    refine nameW fun W hW => ?_
    rw [← hW] at hA1
    clear hW
    replace hB := Below.join hB (Nat.le_refl _) hA1
    replace x0 := cellLater hA1 x0
    replace x1 := cellLater hA1 x1
    replace x2 := cellLater hA1 x2
    replace x3 := cellLater hA1 x3
    clear hA1 hB2 lw hCh
    go_loopw [6, 20] (fun tt kk wr => ∃ (k : Nat), k ≤ np ∧ kk = .int .i64 k ∧ tt = .string (ba (diagT f P k)) ∧ Below W.heap.size W wr) (fun _ kk _ => np - (intOf kk).toNat)
    case atStart => exact ⟨0, Nat.zero_le _, rfl, rfl, Below.refl _ _⟩
    case round =>
      obtain ⟨k, hk, rfl, rfl, hBw⟩ := hrel
      obtain ⟨so, hso⟩ : ∃ so, so = ba (diagT f P k) := ⟨_, rfl⟩
      rw [← hso]
      have hso' : Hid _ := hso
      clear hso
      have hlk := diagT_len hSm k hk
      by_cases hlt : k < np
      · have hRk := hR.train k hlt
        have hSk := hSm k hlt
        have hnl := hSk.nl
        have hpos := hSk.pos
        have hk' : (k : Int) < (np : Int) := by omega
        have hk0 : (0 : Int) ≤ (k : Int) := by omega
        have hBk := Below.join hB (Nat.le_refl _) hBw
        obtain ⟨b, off, la, lc, rfl, _, hb', t0, t1, t2, t3, t4, hlg, _⟩ := hT k hlt
        obtain ⟨bp, op, lp, lpc, rfl, _, hbp, p0, hin, _⟩ := hP k hlt
        rw [hQ.row k hlt] at p0 hin
        replace t0 := cellLater hBk t0
        replace t1 := cellLater hBk t1
        replace t2 := cellLater hBk t2
        replace t3 := cellLater hBk t3
        replace t4 := cellLater hBk t4
        have hA0 := b1 wr (.cells #[.int .i64 (f k).frm, .int .i64 (f k).ready, .int .i64 (f k).due, .int .i64 (f k).weight, .slice la (f k).nl lc] 71)
        have hTb := Go.heap_alloc_new wr (.cells #[.int .i64 (f k).frm, .int .i64 (f k).ready, .int .i64 (f k).due, .int .i64 (f k).weight, .slice la (f k).nl lc] 71)
        have hll : (letterT k).length = 1 := rfl
        obtain ⟨sl, hsl⟩ : ∃ sl, sl = ba (letterT k) := ⟨_, rfl⟩
        obtain ⟨r1, e1, f1⟩ := cat so sl _ _ hso'.out hsl (by omega)
        obtain ⟨B, hBe⟩ : ∃ B, B = diagT f P k ++ letterT k := ⟨_, rfl⟩
        have hr1 : Hid (r1 = ba B) := by unfold Hid; rw [f1.out, hBe]
        have hBl : B.length ≤ 222 * k + 1 := by rw [hBe, List.length_append]; omega
        have hd1 : Hid (diagT f P (k + 1) = standsT (f k) (P k) B ((f k).nl + 1) ++ lateT (f k) (fromOf (f k) (P k) (f k).nl) ++ [10]) := by unfold Hid; rw [hBe, diagT_row]
        have hw8 : IntKind.u8.wrap (65 + (k : Int)) = 65 + (k : Int) := by rw [IntKind.wrap_u8]; omega
        have hw64 : IntKind.i64.wrap (65 + (k : Int)) = 65 + (k : Int) := by rw [IntKind.wrap_i64]; omega
        have hconv : ∀ X : World, Sem.run Tryz.prog (convert 22 9 (.slice (some ⟨X.heap.size, 0, none⟩) 1 1)) (X.alloc (.cells #[.int .u8 (65 + (k : Int))] 5)) = .ok (.string sl) (X.alloc (.cells #[.int .u8 (65 + (k : Int))] 5)) := fun X => by
          have hc1 : ∀ i, i < 1 → (X.alloc (.cells #[.int .u8 (65 + (k : Int))] 5)).cell? ⟨X.heap.size, 0 + i, none⟩ = some (.int .u8 ([65 + (k : Int)].getD i 0)) := fun i hi => by
            obtain rfl : i = 0 := by omega
            simp
          have h := run_convert_bytes_arg (P := Tryz.prog) (X.alloc (.cells #[.int .u8 (65 + (k : Int))] 5)) 22 5 Tryz.underlying22 Tryz.underlying5 X.heap.size 0 1 1 [65 + (k : Int)] rfl hc1 9 Tryz.underlying9
          have hs : strOfNums [65 + (k : Int)] = ba (letterT k) := by
            unfold strOfNums ba letterT
            have : (65 + (k : Int)).toNat = 65 + k := by omega
            simp [this]
          rw [hs, ← hsl] at h
          exact h
        have hcv := hconv (wr.alloc (.cells #[.int .i64 (f k).frm, .int .i64 (f k).ready, .int .i64 (f k).due, .int .i64 (f k).weight, .slice la (f k).nl lc] 71))
        simp only [World.size_alloc] at hcv
        clear f1 hsl hconv
        have hBe' : Hid _ := hBe
        clear hBe hll
        go_wp2
        have hA1 := b2 wr (.cells #[.int .i64 (f k).frm, .int .i64 (f k).ready, .int .i64 (f k).due, .int .i64 (f k).weight, .slice la (f k).nl lc] 71) (.cells #[.int .u8 (65 + (k : Int))] 5)
        have hAl := b1 (wr.alloc (.cells #[.int .i64 (f k).frm, .int .i64 (f k).ready, .int .i64 (f k).due, .int .i64 (f k).weight, .slice la (f k).nl lc] 71)) (.cells #[.int .u8 (65 + (k : Int))] 5)
        have c0 := cell_of_row _ wr.heap.size 0 _ _ _ hTb
        have c1 := cell_of_row _ wr.heap.size 1 _ _ _ hTb
        have c2 := cell_of_row _ wr.heap.size 2 _ _ _ hTb
        have c3 := cell_of_row _ wr.heap.size 3 _ _ _ hTb
        have c4 := cell_of_row _ wr.heap.size 4 _ _ _ hTb
        simp only [List.getElem?_toArray, List.getElem?_cons_zero, List.getElem?_cons_succ] at c0 c1 c2 c3 c4
        replace c0 := cellLater hAl c0
        replace c1 := cellLater hAl c1
        replace c2 := cellLater hAl c2
        replace c3 := cellLater hAl c3
        replace c4 := cellLater hAl c4
        refine nameW fun V hV => ?_
        rw [← hV] at hA1 c0 c1 c2 c3 c4
        clear hV t0 t1 t2 t3 t4 hTb hAl hA0 hcv hw8 hw64 e1
        have hBV := Below.join hBw (Nat.le_refl _) hA1
        have q0 := cellLater hBV x0
        have q1 := cellLater hBV x1
        have q2 := cellLater hBV x2
        have q3 := cellLater hBV x3
        have hBVw := Below.join hB (Nat.le_refl _) hBV
        generalize wr.heap.size = bx at c0 c1 c2 c3 c4 ⊢
        clear hA1 hBk
        go_loopw [6, 35] (fun tt mm wr2 => ∃ (m : Nat), m ≤ (f k).nl ∧ mm = .int .i64 m ∧ tt = .string (ba (standsT (f k) (P k) B m)) ∧ Below V.heap.size V wr2) (fun _ mm _ => (f k).nl - (intOf mm).toNat)
        case atStart => exact ⟨0, Nat.zero_le _, rfl, by rw [hr1.out]; rfl, Below.refl _ _⟩
        case round =>
          clear hr1
          obtain ⟨m, hm, rfl, rfl, hBm⟩ := hrel
          obtain ⟨sm, hsm⟩ : ∃ sm, sm = ba (standsT (f k) (P k) B m) := ⟨_, rfl⟩
          rw [← hsm]
          have hsm' : Hid _ := hsm
          clear hsm
          have hlm := standsT_len (b := B) hSk m (by omega)
          have hBVm := Below.join hBVw (Nat.le_refl _) hBm
          replace c0 := cellLater hBm c0
          replace c1 := cellLater hBm c1
          replace c2 := cellLater hBm c2
          replace c3 := cellLater hBm c3
          replace c4 := cellLater hBm c4
          replace q0 := cellLater hBm q0
          replace q1 := cellLater hBm q1
          replace q2 := cellLater hBm q2
          replace q3 := cellLater hBm q3
          by_cases hmlt : m < (f k).nl
          · have hm' : (m : Int) < ((f k).nl : Int) := by omega
            have hm0 : (0 : Int) ≤ (m : Int) := by omega
            obtain ⟨n00, n01⟩ := hSk.st m (by omega)
            obtain ⟨s0, s1⟩ := hQ.at0 k hlt m hmlt
            have n10 : 0 ≤ (P k).s m := s0
            have n11 : (P k).s m ≤ 99999999 := by omega
            have hto : toOf (f k) (P k) m = (P k).s m := by unfold toOf; rw [if_pos hmlt]
            have hsn : Hid (standsT (f k) (P k) B (m + 1) = standsT (f k) (P k) B m ++ standT (cur (f k) m) ((P k).s m)) := by unfold Hid; rw [← hto]; rfl
            have hAt := l2at_any (f k) m la lc wr.drew (by omega) hnl (hlg.grow hBVm.drew)
            obtain ⟨bi, oi, rfl, _, hbi, i0⟩ := hin m hmlt
            replace i0 := cellLater hBVm i0
            have p1 := cellLater hBVm p0
            generalize cur (f k) m = cv at n00 n01 hsn hAt
            generalize (P k).s m = sv at n10 n11 hsn i0
            clear hto s0 s1
            have hi0 := itoa_len n00 n01
            have hi1 := itoa_len n10 n11
            obtain ⟨r1, e1, f1⟩ := cat ⟨#[32]⟩ (ba (Lib.itoa cv)) [32] _ rfl rfl (by simp; omega)
            obtain ⟨r2, e2, f2⟩ := cat r1 ⟨#[64]⟩ _ [64] f1.out rfl (by simp; omega)
            obtain ⟨r3, e3, f3⟩ := cat r2 (ba (Lib.itoa sv)) _ _ f2.out rfl (by simp; omega)
            obtain ⟨r4, e4, f4⟩ := cat sm r3 _ _ hsm'.out f3.out (by simp; omega)
            have hr4 : Hid (r4 = ba (standsT (f k) (P k) B m ++ standT cv sv)) := f4
            clear f1 f2 f3 f4 hi0 hi1
            have hVV : Below wr.heap.size wr wr.drew := (Below.refl _ _).drew
            go_wp2
            go_region_held3 (fun w' => w'.cell? ⟨bx, 0, none⟩ = some (.int .i64 (f k).frm) ∧ w'.cell? ⟨bx, 1, none⟩ = some (.int .i64 (f k).ready) ∧ w'.cell? ⟨bx, 2, none⟩ = some (.int .i64 (f k).due) ∧ w'.cell? ⟨bx, 3, none⟩ = some (.int .i64 (f k).weight) ∧ w'.cell? ⟨bx, 4, none⟩ = some (.slice la (f k).nl lc) ∧ w'.cell? ⟨w.heap.size + 1, 0, none⟩ = some (.slice (some ⟨bp, op, none⟩) np nc) ∧ w'.cell? ⟨bp, op + k, none⟩ = some (.slice (some ⟨bi, oi, none⟩) (f k).nl lpc) ∧ w'.cell? ⟨bi, oi + m, none⟩ = some (.int .i64 sv)) (first | go_keep | (go_split_ands; refine ⟨?_, ?_, ?_, ?_, ?_, ?_, ?_, ?_⟩ <;> exact cellLater hB6 (by assumption))) ((first | (go_at_call 52; refine hAt.mono ?_; rintro _ w6 ⟨rfl, hB6⟩; replace hVV := Below.join hVV (Nat.le_refl _) hB6) | (go_at_call 50; refine (l4decimal_any _ _ (by assumption) (by assumption)).mono ?_; rintro _ w6 ⟨rfl, hB6⟩; replace hVV := Below.join hVV (Nat.le_refl _) hB6)))
            go_wp2
            go_roundw
            case rel => exact ⟨m + 1, by omega, by go_num, by rw [hr4.out, hsn.out], Below.join hBm (Nat.le_refl _) hVV⟩
            case measure => simp [intOf]; omega
          · obtain rfl : m = (f k).nl := by omega
            have hCa := specArrives_any a len cap g gap (some ⟨b, off, none⟩) np cap' f (some ⟨bp, op, none⟩) np nc P (k : Int) wr hl hl' hml hp hmp (hI.grow hBVm) (hT.grow hBVm) (hP.grow hBVm)
            rw [hAr k hlt, ← fromOf_end f P hpos] at hCa
            obtain ⟨n00, n01⟩ := hSk.st (f k).nl (Nat.le_refl _)
            obtain ⟨n10, n11⟩ := hSk.too (f k).nl (Nat.le_refl _)
            rw [toOf_end] at n10 n11
            have hcl : cur (f k) (f k).nl = ((f k).leg ((f k).nl - 1)).to := by
              obtain ⟨e, he⟩ : ∃ e, (f k).nl = e + 1 := ⟨(f k).nl - 1, by omega⟩
              rw [he]; rfl
            obtain ⟨bl, ol, rfl, _, hbl, l0, _, _⟩ := hlg ((f k).nl - 1) (by omega)
            rw [← hcl] at l0
            replace l0 := cellLater hBVm l0
            have hn0 : (0 : Int) ≤ ((f k).nl : Int) - 1 := by omega
            have hn1 : ((f k).nl : Int) - 1 < ((f k).nl : Int) := by omega
            have hn2 : (((f k).nl : Int) - 1).toNat = (f k).nl - 1 := by omega
            have hn3 : IntKind.i64.wrap (((f k).nl : Int) - 1) = ((f k).nl : Int) - 1 := by rw [IntKind.wrap_i64]; omega
            have hst : Hid (standsT (f k) (P k) B ((f k).nl + 1) = standsT (f k) (P k) B (f k).nl ++ standT (cur (f k) (f k).nl) (fromOf (f k) (P k) (f k).nl)) := by unfold Hid; rw [← toOf_end]; rfl
            generalize cur (f k) (f k).nl = cv at n00 n01 l0 hst
            generalize fromOf (f k) (P k) (f k).nl = ev at n10 n11 hCa hst hd1
            clear hcl
            have hdu0 := hSk.d0
            have hdu1 := hSk.d1
            have hi0 := itoa_len n00 n01
            have hi1 := itoa_len n10 n11
            obtain ⟨r1, e1, f1⟩ := cat ⟨#[32]⟩ (ba (Lib.itoa cv)) [32] _ rfl rfl (by simp; omega)
            obtain ⟨r2, e2, f2⟩ := cat r1 ⟨#[64]⟩ _ [64] f1.out rfl (by simp; omega)
            obtain ⟨r3, e3, f3⟩ := cat r2 (ba (Lib.itoa ev)) _ _ f2.out rfl (by simp; omega)
            obtain ⟨r4, e4, f4⟩ := cat sm r3 _ _ hsm'.out f3.out (by simp; omega)
            have hr4 : Hid (r4 = ba (standsT (f k) (P k) B ((f k).nl + 1))) := by unfold Hid; rw [f4.out, hst.out]; rfl
            have hl4 := standsT_len (b := B) hSk ((f k).nl + 1) (Nat.le_refl _)
            clear f1 f2 f3 f4 hst
            by_cases hlate : (f k).due < ev
            · have hlt' : Hid (lateT (f k) ev = [32, 108, 97, 116, 101, 32] ++ Lib.itoa (ev - (f k).due)) := by unfold Hid lateT; rw [if_pos hlate]
              have n20 : 0 ≤ ev - (f k).due := by omega
              have n21 : ev - (f k).due ≤ 99999999 := by omega
              have hi2 := itoa_len n20 n21
              have hws : IntKind.i64.wrap (ev - (f k).due) = ev - (f k).due := by rw [IntKind.wrap_i64]; omega
              obtain ⟨r5, e5, f5⟩ := cat ⟨#[32, 108, 97, 116, 101, 32]⟩ (ba (Lib.itoa (ev - (f k).due))) [32, 108, 97, 116, 101, 32] _ rfl rfl (by simp; omega)
              obtain ⟨r6, e6, f6⟩ := cat r4 r5 _ _ hr4.out f5.out (by simp; omega)
              obtain ⟨r7, e7, f7⟩ := cat r6 ⟨#[10]⟩ _ [10] f6.out rfl (by simp; omega)
              have hr7 : Hid (r7 = ba (diagT f P (k + 1))) := by unfold Hid; rw [f7.out, hd1.out, hlt'.out]
              clear f5 f6 f7 hi0 hi1 hi2
              go_wp2_with (first | (go_at_call 53; refine hCa.mono ?_; rintro _ w6 ⟨rfl, hB6⟩; have hVV := hB6; replace c2 := cellLater hB6 c2; replace c4 := cellLater hB6 c4; replace l0 := cellLater hB6 l0) | (go_at_call 50; refine (l4decimal_any _ _ (by assumption) (by assumption)).mono ?_; rintro _ w6 ⟨rfl, hB6⟩; replace hVV := Below.join hVV (Nat.le_refl _) hB6; replace c2 := cellLater hB6 c2; replace c4 := cellLater hB6 c4; replace l0 := cellLater hB6 l0))
              go_roundw
              case rel => exact ⟨k + 1, by omega, by go_num, by rw [hr7.out], Below.join (Below.join hBV (Nat.le_refl _) hBm) (Nat.le_refl _) hVV⟩
              case measure => simp [intOf]; omega
            · have hlt' : Hid (lateT (f k) ev = []) := by unfold Hid lateT; rw [if_neg hlate]
              obtain ⟨r7, e7, f7⟩ := cat r4 ⟨#[10]⟩ _ [10] hr4.out rfl (by simp; omega)
              have hr7 : Hid (r7 = ba (diagT f P (k + 1))) := by unfold Hid; rw [f7.out, hd1.out, hlt'.out, List.append_nil]
              clear f7 hi0 hi1
              go_wp2_with (first | (go_at_call 53; refine hCa.mono ?_; rintro _ w6 ⟨rfl, hB6⟩; have hVV := hB6; replace c2 := cellLater hB6 c2; replace c4 := cellLater hB6 c4; replace l0 := cellLater hB6 l0) | (go_at_call 50; refine (l4decimal_any _ _ (by assumption) (by assumption)).mono ?_; rintro _ w6 ⟨rfl, hB6⟩; replace hVV := Below.join hVV (Nat.le_refl _) hB6; replace c2 := cellLater hB6 c2; replace c4 := cellLater hB6 c4; replace l0 := cellLater hB6 l0))
              go_roundw
              case rel => exact ⟨k + 1, by omega, by go_num, by rw [hr7.out], Below.join (Below.join hBV (Nat.le_refl _) hBm) (Nat.le_refl _) hVV⟩
              case measure => simp [intOf]; omega
      · obtain rfl : k = np := by omega
        go_wp2
        go_ret
        exact ⟨by rw [← hso'.out]; rfl, Below.join hB (Nat.le_refl _) hBw⟩
  · have hA : diagOf len g gap len' f np P = [] := by unfold diagOf; rw [if_neg (fun h => hz (by rw [h]))]
    rw [hA]
    clear hA
    generalize clashOf len g gap len' f np P = vq at hz hCh
    obtain ⟨v0, v1, v2, v3⟩ := vq
    dsimp only at hz hCh
    have hz' : (v0 != 0) = true := by simpa using hz
    go_enter Tryz.func18, Tryz.ntmps18
    go_wp2_with (go_at_call 8; refine hCh.mono ?_; rintro _ w2 ⟨rfl, hB2⟩)
    go_ret
    exact ⟨rfl, Below.join (Below.join hN (Nat.le_refl _) hB2) (Nat.le_refl _) (b1 _ _)⟩
end Go.Proofs.YtnjaegeapcijpaaGreatDoor

namespace Go.Proofs.YtnjaegeapcijpaaGreatDoor
open Go.RowKit

set_option maxRecDepth 20000 in
set_option maxHeartbeats 8000000 in
theorem lawText_any (a : Option Addr) (len cap : Nat) (w : World) (hI : IsB w a len) (hg : w.cell? ⟨1, 0, none⟩ = some (.iface 194 (.agg #[.pointer (some ⟨10, 131, none⟩)]))) (hLd : LaidR w) :
    Calls Tryz.prog 4 #[.slice a len cap] w fun e w' => e = .returned (.bool true) ∧ Below w.heap.size w w' := by
  by_cases hlen : len ≤ 1048576
  · have hlen' : ¬ ((1048576 : Int) < (len : Int)) := by omega
    have hD := lines_any w a len cap 6 hlen hI (by decide) (by decide)
    go_enter Tryz.func4, Tryz.ntmps4
    go_wp2_with (go_at_call 5; fail)
    refine hD.mono ?_
    rintro _ w1 ⟨l, hDr, L, at_, ct, aT, cT, hlL, rfl, hown, hB1⟩
    have hF := hDr.right
    have hTold := hDr.told
    have hL5 := hDr.trs
    have hLl : L.length = l.trains.length := by rw [hlL, List.length_map]
    obtain ⟨x1, x2, ex, hIn⟩ := ownInts hown.ints
    cases ex
    obtain ⟨x3, x4, ex, hT1⟩ := hown.trs.trains (fun x hx => by
      have h1 := hDr.legs
      rw [hlL, List.map_map] at h1
      have := Nat.le_trans (le_sum (List.mem_map.2 ⟨x, hx, rfl⟩)) h1
      have h2 : x.1.legs.length ≤ 10 := this
      unfold maxLen; omega)
    cases ex
    rw [← hlL, hLl] at hT1
    rw [hLl]
    replace hIn : IsInts 0 w1.heap.size w1 at_ l.tracks.length (gI l.tracks) := hIn.mono (Nat.zero_le _) (Nat.le_refl _)
    replace hT1 : IsTrains 0 w1.heap.size w1 aT l.trains.length (fT l.trains) := hT1.mono (Nat.zero_le _) (Nat.le_refl _)
    clear hD hown hlL hLl hDr hI
    -- the line's data, and how it is read back
    have hBack : ∀ W e W', ToldPost (lineT l.tracks.length (gI l.tracks) l.gap l.trains.length (fT l.trains)) W e W' → ∃ bt bc bT bC, e = .returned (.agg #[.int .i64 0, .int .i64 0, .slice bt l.tracks.length bc, .int .i64 l.gap, .slice bT l.trains.length bC]) ∧ IsInts 0 W'.heap.size W' bt l.tracks.length (gI l.tracks) ∧ IsTrains 0 W'.heap.size W' bT l.trains.length (fT l.trains) ∧ Below W.heap.size W W' := by
      rintro W e W' ⟨tr, gp, M, bt, bc, bT, bC, h1, h2, ho, h39, h5000, hlg, hB⟩
      rw [hTold] at h1 h2
      have h1' : l = ⟨tr, gp, M.map Prod.fst⟩ := h1
      subst h1'
      have hM : (M.map Prod.fst).length = M.length := List.length_map ..
      obtain ⟨y1, y2, ey, hJ⟩ := ownInts ho.ints
      cases ey
      obtain ⟨y3, y4, ey, hU⟩ := ho.trs.trains (fun x hx => by have := hlg x hx; unfold maxLen; omega)
      cases ey
      refine ⟨bt, bc, bT, bC, ?_, hJ.mono (Nat.zero_le _) (Nat.le_refl _), ?_, hB⟩
      · rw [h2]; show _ = Ending.returned (.agg #[_, _, _, _, .slice _ (M.map Prod.fst).length _]); rw [hM]
      · show IsTrains 0 W'.heap.size W' bT (M.map Prod.fst).length _
        rw [hM]
        exact hU.mono (Nat.zero_le _) (Nat.le_refl _)
    clear hTold
    generalize gI l.tracks = g at hIn hF hBack
    generalize fT l.trains = f at hT1 hF hBack
    generalize l.tracks.length = nt at hIn hF hBack ⊢
    generalize l.trains.length = np at hT1 hF hL5 hBack ⊢
    generalize l.gap = gap at hF hBack ⊢
    clear l
    have hR := rightL_of hF
    have hml : ∀ j, j < np → (f j).nl ≤ 1048576 := fun j hj => by have := (hR.train j hj).nl; omega
    have hnt : nt ≤ 1048576 := by have := hR.st; omega
    have hnp' : np ≤ 1048576 := by omega
    have hg1 := cellLater hB1 hg
    have hLd1 := hLd.later hB1
    have hF' : Hid _ := hF
    have hR' : Hid _ := hR
    have hlT := lineT_len hF
    have hwr : writeOf nt g gap np f = lineT nt g gap np f := by unfold writeOf; rw [hF, if_pos rfl]
    have hWr : ∀ V : World, Below w1.heap.size w1 V → Calls Tryz.prog 12 #[.agg #[.slice at_ nt ct, .int .i64 gap, .slice aT np cT]] V fun e w' => e = .returned (.string (ba (lineT nt g gap np f))) ∧ Below V.heap.size V w' := fun V hV => by
      rw [← hwr]; exact implWrite_any at_ nt ct g gap aT np cT f V hnt hnp' hml (hIn.grow hV) (hT1.grow hV) (cellLater hV hg1) (hLd1.words.later hV) (hLd1.ten.later hV)
    have hSwr : ∀ V : World, Below w1.heap.size w1 V → Calls Tryz.prog 15 #[.agg #[.slice at_ nt ct, .int .i64 gap, .slice aT np cT]] V fun e w' => e = .returned (.string (ba (lineT nt g gap np f))) ∧ Below V.heap.size V w' := fun V hV => by
      rw [← hwr]; exact specWrite_any at_ nt ct g gap aT np cT f V hnt hnp' hml (hIn.grow hV) (hT1.grow hV)
    have hRd : ∀ V : World, Below w1.heap.size w1 V → Calls Tryz.prog 13 #[.string (ba (lineT nt g gap np f))] V fun e w' => ∃ bt bc bT bC, e = .returned (.agg #[.int .i64 0, .int .i64 0, .slice bt nt bc, .int .i64 gap, .slice bT np bC]) ∧ IsInts 0 w'.heap.size w' bt nt g ∧ IsTrains 0 w'.heap.size w' bT np f ∧ Below V.heap.size V w' := fun V hV =>
      (implRead_any _ V (hLd1.later hV) (cellLater hV hg1) (by omega)).mono (fun e w' h => hBack V e w' h)
    have hSo : ∀ V : World, Below w1.heap.size w1 V → Calls Tryz.prog 14 #[.agg #[.slice at_ nt ct, .int .i64 gap, .slice aT np cT]] V fun e w' => ∃ b z c n nc P, e = .returned (.agg #[.bool b, .int .i64 z, .slice c n nc]) ∧ n ≤ 5 ∧ (∀ j, j < n → (P j).n ≤ 10) ∧ IsRows 0 w'.heap.size w' c n P ∧ Caps w' c n ∧ Below V.heap.size V w' := fun V hV =>
      (specSolve_yes at_ nt ct g gap aT np cT f V hnt hnp' hml (hIn.grow hV) (hT1.grow hV) hF').mono (fun e w' h => h.lies hL5 (fun j hj => (hR'.out.train j hj).nl))
    obtain ⟨s, hs⟩ : ∃ s, s = ba (lineT nt g gap np f) := ⟨_, rfl⟩
    rw [← hs] at hWr hSwr hRd
    clear hs hBack hlT hwr hF hR
    have hA := b1 w1 (.cells #[.slice at_ nt ct, .int .i64 gap, .slice aT np cT] 26)
    obtain ⟨n0, n1, n2⟩ := new3 w1 (.slice at_ nt ct) (.int .i64 gap) (.slice aT np cT) 26
    have hWrA := hWr _ hA
    go_wp2_with (go_at_call 12; fail)
    refine hWrA.mono ?_
    rintro _ w2 ⟨rfl, hB2⟩
    have hC2 := Below.join hA (Nat.le_refl _) hB2
    replace n0 := cellLater hB2 n0
    replace n1 := cellLater hB2 n1
    replace n2 := cellLater hB2 n2
    have hRd2 := hRd _ hC2
    clear hWrA hA
    go_wp2_with (go_at_call 13; fail)
    refine hRd2.mono ?_
    rintro _ w3 ⟨bt, bc, bT, bC, rfl, hJ, hU, hB3⟩
    clear hRd hRd2 hWr hB2
    have hA3 := b1 w3 (.cells #[.int .i64 0, .int .i64 0, .slice bt nt bc, .int .i64 gap, .slice bT np bC] 43)
    obtain ⟨t0, _, t2, t3, t4⟩ := new5s w3 (.int .i64 0) (.int .i64 0) (.slice bt nt bc) (.int .i64 gap) (.slice bT np bC) 43
    have hC3 := Below.join hC2 (Nat.le_refl _) hB3
    have hC3' := Below.join hC3 (Nat.le_refl _) hA3
    have hSo3 := hSo _ hC3'
    replace n0 := cellLater hA3 (cellLater hB3 n0)
    replace n1 := cellLater hA3 (cellLater hB3 n1)
    replace n2 := cellLater hA3 (cellLater hB3 n2)
    replace hJ := hJ.grow hA3
    replace hU := hU.grow hA3
    go_wp2_with (go_at_call 14; fail)
    clear hA3 hB3 hC3 hC2
    refine hSo3.mono ?_
    rintro _ w4 ⟨bo, z, c, n, nc, P, rfl, hn5, hn10, hrows, hcaps, hB4⟩
    clear hSo hSo3
    have hA4 := b1 w4 (.cells #[.bool bo, .int .i64 z, .slice c n nc] 46)
    obtain ⟨_, _, v2⟩ := new3 w4 (.bool bo) (.int .i64 z) (.slice c n nc) 46
    have hC4 := Below.join (Below.join hC3' (Nat.le_refl _) hB4) (Nat.le_refl _) hA4
    replace n0 := cellLater hA4 (cellLater hB4 n0)
    replace n1 := cellLater hA4 (cellLater hB4 n1)
    replace n2 := cellLater hA4 (cellLater hB4 n2)
    replace t0 := cellLater hA4 (cellLater hB4 t0)
    replace t2 := cellLater hA4 (cellLater hB4 t2)
    replace t3 := cellLater hA4 (cellLater hB4 t3)
    replace t4 := cellLater hA4 (cellLater hB4 t4)
    replace hJ := (hJ.grow hB4).grow hA4
    replace hU := (hU.grow hB4).grow hA4
    replace hrows := hrows.grow hA4
    replace hcaps := hcaps.later hA4
    obtain ⟨wb, hwb⟩ : ∃ wb, wb = w4.alloc (.cells #[.bool bo, .int .i64 z, .slice c n nc] 46) := ⟨_, rfl⟩
    rw [← hwb] at n0 n1 n2 t0 t2 t3 t4 v2 hJ hU hrows hcaps hC4
    have hI4 := hIn.grow hC4
    have hT4 := hT1.grow hC4
    have hSw4 : ∀ V : World, Below wb.heap.size wb V → Calls Tryz.prog 15 #[.agg #[.slice at_ nt ct, .int .i64 gap, .slice aT np cT]] V fun e w' => e = .returned (.string s) ∧ Below V.heap.size V w' := fun V hV => hSwr V (Below.join hC4 (Nat.le_refl _) hV)
    have hWl : ∀ V : World, Below wb.heap.size wb V → Calls Tryz.prog 16 #[.agg #[.slice bt nt bc, .int .i64 gap, .slice bT np bC], .agg #[.slice at_ nt ct, .int .i64 gap, .slice aT np cT]] V fun e w' => e = .returned (.bool true) ∧ Below V.heap.size V w' := fun V hV =>
      wLine_same bt at_ nt bc ct g gap bT aT np bC cT f V hnt hnp' hml (hJ.grow hV) (hI4.grow hV) (hU.grow hV) (hT4.grow hV)
    obtain ⟨d, hd⟩ : ∃ d, d = ba (diagOf nt g gap np f n P) := ⟨_, rfl⟩
    have hDi : ∀ V : World, Below wb.heap.size wb V → Calls Tryz.prog 17 #[.agg #[.slice at_ nt ct, .int .i64 gap, .slice aT np cT], .agg #[.slice c n nc]] V fun e w' => e = .returned (.string d) ∧ Below V.heap.size V w' := fun V hV => by
      rw [hd]; exact implDiag_any at_ nt ct g gap aT np cT f c n nc P V hnt hnp' hml (by omega) (fun j hj => by have := hn10 j hj; omega) (hI4.grow hV) (hT4.grow hV) (hrows.grow hV) (hcaps.later hV) (cellLater hV (cellLater hC4 hg1)) ((hLd1.ten.later hC4).later hV)
    have hDs : ∀ V : World, Below wb.heap.size wb V → Calls Tryz.prog 18 #[.agg #[.slice at_ nt ct, .int .i64 gap, .slice aT np cT], .agg #[.slice c n nc]] V fun e w' => e = .returned (.string d) ∧ Below V.heap.size V w' := fun V hV => by
      rw [hd]; exact specDiag_any at_ nt ct g gap aT np cT f c n nc P V hnt hnp' hml (by omega) (fun j hj => by have := hn10 j hj; omega) (hI4.grow hV) (hT4.grow hV) (hrows.grow hV)
    clear hd
    go_wp2
    rw [← hwb]
    clear hwb hA4 hB4 hC3' hJ hU hrows hcaps hI4 hT4 hSwr hIn hT1 hn10 hn5 hml
    have hDw : Below wb.heap.size wb wb.drew := (Below.refl _ _).drew
    go_region_held3 (fun w' => w'.cell? ⟨w1.heap.size, 0, none⟩ = some (.slice at_ nt ct) ∧ w'.cell? ⟨w1.heap.size, 1, none⟩ = some (.int .i64 gap) ∧ w'.cell? ⟨w1.heap.size, 2, none⟩ = some (.slice aT np cT) ∧ w'.cell? ⟨w3.heap.size, 0, none⟩ = some (.int .i64 0) ∧ w'.cell? ⟨w3.heap.size, 2, none⟩ = some (.slice bt nt bc) ∧ w'.cell? ⟨w3.heap.size, 3, none⟩ = some (.int .i64 gap) ∧ w'.cell? ⟨w3.heap.size, 4, none⟩ = some (.slice bT np bC) ∧ w'.cell? ⟨w4.heap.size, 2, none⟩ = some (.slice c n nc))
      (first | exact ⟨n0, n1, n2, t0, t2, t3, t4, v2⟩ | exact ⟨cellLater hD8 n0, cellLater hD8 n1, cellLater hD8 n2, cellLater hD8 t0, cellLater hD8 t2, cellLater hD8 t3, cellLater hD8 t4, cellLater hD8 v2⟩ | exact ⟨cellLater hD7 n0, cellLater hD7 n1, cellLater hD7 n2, cellLater hD7 t0, cellLater hD7 t2, cellLater hD7 t3, cellLater hD7 t4, cellLater hD7 v2⟩ | exact ⟨cellLater hD6 n0, cellLater hD6 n1, cellLater hD6 n2, cellLater hD6 t0, cellLater hD6 t2, cellLater hD6 t3, cellLater hD6 t4, cellLater hD6 v2⟩ | exact ⟨cellLater hD5 n0, cellLater hD5 n1, cellLater hD5 n2, cellLater hD5 t0, cellLater hD5 t2, cellLater hD5 t3, cellLater hD5 t4, cellLater hD5 v2⟩)
      (first | (go_at_call 15; refine (hSw4 _ hDw).mono ?_; rintro _ w5 ⟨rfl, hB5⟩; have hD5 := Below.join hDw (Nat.le_refl _) hB5) | (go_at_call 16; refine (hWl _ hD5).mono ?_; rintro _ w6 ⟨rfl, hB6⟩; have hD6 := Below.join hD5 (Nat.le_refl _) hB6) | (go_at_call 17; refine (hDi _ hD6).mono ?_; rintro _ w7 ⟨rfl, hB7⟩; have hD7 := Below.join hD6 (Nat.le_refl _) hB7) | (go_at_call 18; refine (hDs _ hD7).mono ?_; rintro _ w8 ⟨rfl, hB8⟩; have hD8 := Below.join hD7 (Nat.le_refl _) hB8))
    go_wp2
    go_ret
    exact ⟨rfl, Below.join hB1 (Nat.le_refl _) (Below.join hC4 (Nat.le_refl _) hD8)⟩
  · have hlen' : (1048576 : Int) < (len : Int) := by omega
    go_enter Tryz.func4, Tryz.ntmps4
    go_wp2
    go_ret
    exact ⟨rfl, Below.refl _ _⟩
end Go.Proofs.YtnjaegeapcijpaaGreatDoor

namespace Go.Proofs.YtnjaegeapcijpaaGreatDoor
open Go.RowKit Go.Deep Go.ChangeShapes Go.WideShapes Go.Joins

theorem Tryz.cellsByte : Tryz.prog.cellsOf 5 = 1 := by kernel_rfl
theorem u8_wf {n : Int} (h : (Lit.int .u8 n).wf = true) : 0 ≤ n ∧ n ≤ 255 := by
  simp only [Lit.wf, Bool.and_eq_true, decide_eq_true_eq] at h
  have h0 : IntKind.u8.min = 0 := by decide
  have h1 : IntKind.u8.max = 255 := by decide
  omega
section
variable {H : Type} {enc : TypeId × Value → H} {w : World} {base : Nat} {spare : Nat → Bool} {held : Bool}
theorem readBytes {fuel : Nat} {v : Value} {x : DataW H × List MemPlace} (h : DataW.trod enc Tryz.prog w base spare held fuel 22 [v] = some x) :
    ∃ (a : Option Addr) (len cap : Nat), v = .slice a len cap ∧ IsB w a len := by
  rcases open_slice1 Tryz.underlying22 Tryz.cellsByte h with ⟨hcs, _⟩ | ⟨a, len, cap, m, n, V, D, Pl, hcs, _, hl, hm, hmm, _, hx⟩
  · exact ⟨none, 0, 0, by simpa using hcs, fun j hj => absurd hj (Nat.not_lt_zero _)⟩
  · have hle : len ≤ m := by rw [hmm]; split <;> omega
    obtain ⟨f, hf⟩ := choose_lt (α := Int) (n := len) (p := fun i y => w.cell? (a.add i) = some (.int .u8 y) ∧ 0 ≤ y ∧ y ≤ 255) (fun i hi => by
      obtain ⟨h1, h2⟩ := hx i (by omega)
      obtain ⟨y, e, _, hwf⟩ := DataW.trod_int Tryz.underlying5 h2
      simp at e
      exact ⟨y, by rw [h1, e], u8_wf hwf⟩)
    refine ⟨some a, len, cap, by simpa using hcs, fun j hj => ?_⟩
    obtain ⟨b, off, rfl, e⟩ := spotOf (i := j) (hf 0 (by omega)).1
    have := hf j hj
    rw [e] at this
    exact ⟨b, off, f j, rfl, this.1, this.2⟩
end
end Go.Proofs.YtnjaegeapcijpaaGreatDoor

namespace Go.Proofs.YtnjaegeapcijpaaGreatDoor
open Go.ChangeShapes Go.WideShapes Go.ChangeAt Go.RowKit

set_option maxRecDepth 100000 in
theorem lawText_contract (H : Type) (enc : TypeId × Value → H) (W : World) (base : Nat) (args : Array Value) (ds gs : List (DataW H)) (before : List MemPlace)
    (hval : ∀ (j : Nat) t v, Tryz.f4.params[j]? = some t → args[j]? = some v → Value.okWide Tryz.prog W .any base t v)
    (hW : DataW.Whole enc Tryz.prog Tryz.f4.params.toList Rows.fnTextSpec.vars false W args.toList ds gs before) (hL : laidMetH Tryz.prog listR W) :
    Calls Tryz.prog 4 args W fun e W' => ∃ v, e = .returned v ∧ Rows.fnTextSpec.post enc Tryz.prog Tryz.f4 false true false false W args v W' := by
  have hW' := hW
  obtain ⟨p, q, hA0, hV, rfl, hfz, hnd⟩ := hW
  have hA : DataW.TrodAll enc Tryz.prog W 0 (fun _ => true) true Tryz.f4.params.toList args.toList ds p := hA0
  rw [Tryz.params4] at hA hval
  obtain ⟨v0, vs0, d0, ds0, p0, q0, hargs, rfl, rfl, h0, r0⟩ := trodAll_cons hA
  obtain ⟨rfl, rfl, rfl⟩ := trodAll_nil r0
  obtain rfl : args = #[v0] := Array.ext' hargs
  obtain ⟨gv, tv, csv, fv, dv, pv, rfl, hgv, htv, hvv, htr, rfl⟩ := trodVars_one hV
  have hparts := listR_parts hL
  have hg := handle_of hparts.2
  have hLR := laidR_of hL
  have hk := h0
  obtain ⟨a, len, cap, rfl⟩ := okWide_slice Tryz.underlying22 (hval 0 22 v0 rfl rfl)
  obtain ⟨fl, hfl⟩ := h0
  obtain ⟨a2, l2, c2, e, hI⟩ := readBytes (v := .slice a len cap) (by simpa [Value.cells] using hfl)
  cases e
  have hWk := hW'
  simp only [List.append_nil] at hW'
  refine (lawText_any a len cap W hI hg hLR).mono fun e W' ⟨he, hb⟩ => ?_
  subst he
  have hlt : ∀ x ∈ p0, x.block < W.heap.size := fun x hx => hW'.lt x (by simp [hx])
  have hltv : ∀ x ∈ pv, x.block < W.heap.size := fun x hx => hW'.lt x (by simp [hx])
  have e1 : ∀ d d' : DataW H, Rows.fnTextSpec.fn H ([d] ++ [d']) = { results := [.lit (.bool true)], args := [d], vars := [d'] } := fun _ _ => rfl
  have htv2 : (Tryz.prog.globals[0]?).map (·.type) = some 120 := by kernel_rfl
  have hgv2 : Tryz.prog.globalNamed "loop.example/stringline/impl.words" = some 0 := by kernel_rfl
  obtain rfl := Option.some.inj (hgv2.symm.trans hgv)
  obtain rfl := Option.some.inj (htv2.symm.trans htv)
  obtain ⟨fv', htr'⟩ := Below.trod Tryz.laidOut (show Tryz.prog.readableRec 120 = true by kernel_rfl) (of_decide_eq_true (by kernel_rfl)) (show DataW.Trod enc Tryz.prog W 0 (fun _ => true) true 120 (.agg csv) dv pv from ⟨fv, htr⟩) hb hltv
  have hvv' := Go.Joins.var_stays hgv2 hvv hb (Nat.le_refl _)
  refine ⟨_, rfl, _, _, _, [], p0 ++ [], MemPlace.row ⟨0, 0, none⟩ csv.size ++ pv, hWk, ?_, ?_, ?_, hb.frame _, fun h => by cases h⟩
  · rw [e1]; exact trodAll_cons_mk (shut_bool Tryz.underlying4 true) trodAll_mk0
  · rw [e1]; exact trodAll_cons_mk (Below.trod Tryz.laidOut (by kernel_rfl) (of_decide_eq_true (by kernel_rfl)) hk hb hlt) trodAll_mk0
  · rw [e1]; exact trodVars_mk1 hgv2 htv2 hvv' htr'

theorem laidWorldT_reads (os : Os) {H : Type} (enc : TypeId × Value → H) : ∃ places, DataW.whole enc Tryz.prog ((laidWorldR os).forCall (fun _ _ => 0) ⟨#[], #[.slice none 0 0], []⟩).memory Tryz.f4.params.toList Rows.fnTextSpec.vars false #[Value.slice none 0 0].toList 8 = some ([.nil], [Rows.laid_loop_example_stringline_impl_words], places) :=
  ⟨[.cell 0 0, .cell 0 1, .cell 0 2, .cell 0 3, .cell lowB 0, .cell (lowB + 1) 0, .cell (lowB + 2) 0, .cell (lowB + 2) 1, .cell (lowB + 2) 2, .cell (lowB + 2) 3, .cell (lowB + 3) 0, .cell (lowB + 3) 1, .cell (lowB + 3) 2], by kernel_rfl⟩

set_option maxRecDepth 100000 in
theorem lawText_lifted (os : Os) (started : os.Started) (H : Type) (enc : TypeId × Value → H) (F : Stop.Interp) :
    ReturnsInHanded {} Tryz.checked os 4 .any ((OpenSpec.ofChange Rows.fnTextSpec).preRow enc Tryz.prog Tryz.f4 Rows.fnTextRow.domain false Rows.fnTextRow.laid) (((OpenSpec.ofChange Rows.fnTextSpec).at F).post enc Tryz.prog Tryz.f4 false true false false) := by
  obtain ⟨places, hx⟩ := laidWorldT_reads os enc
  refine returnsInHanded_of_row (C := Tryz.checked) (s := OpenSpec.ofChange Rows.fnTextSpec) Tryz.own started (by kernel_rfl) Tryz.func4
    (witness_row_atRef (enc := enc) (C := Tryz.checked) false (laidWorldR os) #[.slice none 0 0] rfl (by kernel_rfl) (by kernel_rfl) (by kernel_rfl)
      (OpenSpec.preRow_of_cond 8 hx (by kernel_rfl) (fun k hk => by cases hk) (by kernel_rfl) (laidWorldR_met os _))) ?_
  intro W base args ds gs before hval hW _ _ _ hL _ _
  exact lawText_contract H enc W base args ds gs before hval hW hL

theorem lawText_said : Rows.FnTextSaid :=
  OpenClaim.holds_of_cond 4 Tryz.f4 rfl rfl rfl rfl rfl rfl rfl ⟨rfl, rfl, rfl, rfl, rfl⟩ rfl rfl rfl rfl rfl (by kernel_rfl) Tryz.func4 (by kernel_rfl)
    (of_decide_eq_true (by kernel_rfl)) (by unfold Func.isWrapper; rw [if_neg (of_decide_eq_false (by kernel_rfl))]; exact ⟨rfl, rfl⟩)
    (fun os started H enc _ F => by rw [OpenClaim.pre_eq_preRow]; exact lawText_lifted os started H enc F)

theorem lawText_plain (f : FuncId) (fn : Func) (hf : Tryz.pinned.checked.prog.funcNamed "loop.example/stringline/laws.FnText" = some f) (hfn : Tryz.pinned.checked.prog.funcs[f]? = some fn) :
    true = Tryz.pinned.checked.prog.looks [] ∧ ∀ (j : Nat) t, fn.params[j]? = some t → Tryz.pinned.checked.prog.wantsStandIn t = false := by
  obtain rfl : f = 4 := Option.some.inj ((show Tryz.prog.funcNamed "loop.example/stringline/laws.FnText" = some 4 by kernel_rfl).symm.trans hf) |>.symm
  obtain rfl : fn = Tryz.f4 := (Option.some.inj (Tryz.func4.symm.trans hfn)).symm
  refine ⟨by kernel_rfl, fun j t ht => ?_⟩
  rw [Tryz.params4] at ht
  obtain rfl : t = 22 := by simpa using Array.mem_of_getElem? ht
  exact (show Tryz.prog.wantsStandIn 22 = false by kernel_rfl)

theorem lawText_card : Rows.FnTextCardSaid :=
  Claim7.holds_tied_plain_at .later [] _ _ _ _ lawText_said (fun _ h => by cases h) (by kernel_rfl) (fun _ h => by cases h) fnText_row_tie rfl ⟨rfl, rfl⟩ (by kernel_rfl) rfl lawText_plain (by kernel_rfl)
end Go.Proofs.YtnjaegeapcijpaaGreatDoor
