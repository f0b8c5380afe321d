/-
  The program's Diagram: what it answers.
-/
import Derived.Test.YthnlkpifafklkaaGreatDoorCourseA
import Derived.Test.YthnlkpifafklkaaGreatDoorImplD
namespace Go.Proofs.YthnlkpifafklkaaGreatDoor
open Go.RowKit

theorem letter_run0 (w : World) : Sem.run Tryz.prog (convert 21 9 (.int .i32 (65 + ((0 : Nat) : Int)))) w = .ok (.string (ba (letterT 0))) w := by kernel_rfl
theorem letter_run1 (w : World) : Sem.run Tryz.prog (convert 21 9 (.int .i32 (65 + ((1 : Nat) : Int)))) w = .ok (.string (ba (letterT 1))) w := by kernel_rfl
theorem letter_run2 (w : World) : Sem.run Tryz.prog (convert 21 9 (.int .i32 (65 + ((2 : Nat) : Int)))) w = .ok (.string (ba (letterT 2))) w := by kernel_rfl
theorem letter_run3 (w : World) : Sem.run Tryz.prog (convert 21 9 (.int .i32 (65 + ((3 : Nat) : Int)))) w = .ok (.string (ba (letterT 3))) w := by kernel_rfl
theorem letter_run4 (w : World) : Sem.run Tryz.prog (convert 21 9 (.int .i32 (65 + ((4 : Nat) : Int)))) w = .ok (.string (ba (letterT 4))) w := by kernel_rfl
theorem letter_run (i : Nat) (hi : i < 5) (w : World) : Sem.run Tryz.prog (convert 21 9 (.int .i32 (65 + (i : Int)))) w = .ok (.string (ba (letterT i))) w := by
  match i, hi with
  | 0, _ => exact letter_run0 w
  | 1, _ => exact letter_run1 w
  | 2, _ => exact letter_run2 w
  | 3, _ => exact letter_run3 w
  | 4, _ => exact letter_run4 w

set_option maxRecDepth 20000 in
set_option maxHeartbeats 8000000 in
theorem implDiag_any (a : Option Addr) (len cap : Nat) (g : Nat → Int) (gap : Int) (a' : Option Addr) (len' cap' : Nat) (f : Nat → TrainD) (c : Option Addr) (np nc : Nat) (P : Nat → RowD) (w : World) (hl : len ≤ 1048576) (hl' : len' ≤ 1048576) (hml : ∀ j, j < len' → (f j).nl ≤ 1048576) (hp : np ≤ 1048576) (hmp : ∀ j, j < np → (P j).n ≤ 1048576)
    (hI : IsInts 0 w.heap.size w a len g) (hT : IsTrains 0 w.heap.size w a' len' f) (hP : IsRows 0 w.heap.size w c np P) (hC : Caps w c np) (hg : w.cell? ⟨0, 0, none⟩ = some (.iface 184 (.agg #[.pointer (some ⟨10, 129, none⟩)]))) (hTn : TenIs w) :
    Calls Tryz.prog 26 #[.agg #[.slice a len cap, .int .i64 gap, .slice a' len' cap'], .agg #[.slice c np nc]] w fun e w' => e = .returned (.string (ba (diagOf len g gap len' f np P))) ∧ Below w.heap.size w w' := by
  obtain ⟨y0, y1, y2, u0⟩ := box2 w a len cap gap a' len' cap' c np nc 35 29
  have hN := b2 w (.cells #[.slice a len cap, .int .i64 gap, .slice a' len' cap'] 35) (.cells #[.slice c np nc] 29)
  have hCh := implCheck_any a len cap g gap a' len' cap' f c np nc P _ hl hl' hml hp hmp (hI.grow hN) (hT.grow hN) (hP.grow hN) (hC.later hN) (cellLater hN hg)
  rcases clashOf_or len g gap len' f np P with hz | hz
  · have hA : diagOf len g gap len' f np P = diagT f P len' := by unfold diagOf; rw [if_pos hz]
    obtain ⟨hF, hS⟩ := clashOf_ok hz
    have hF0 := faultOf_snd hF
    have hR := rightL_of hF0
    have hQ := rightP_of hS
    obtain rfl : np = len' := hQ.np
    have hSm : ∀ i, i < np → SmallS (f i) (P i) := fun i hi => smallS_of hF0 hS hi
    rw [hA]
    rw [hz] at hCh
    dsimp only [clashV] at hCh
    clear hA hz hF hF0 hS
    have htr := hR.tr
    go_enter Tryz.func26, Tryz.ntmps26
    go_wp2_with (go_at_call 55; refine hCh.mono ?_; rintro _ W ⟨rfl, hB2⟩; have hB := Below.join hN (Nat.le_refl _) hB2; have x2 := cellLater hB2 y2; have x3 := cellLater hB2 u0)
    clear hB2 hCh
    go_loopw [5, 16] (fun tt kk wr => ∃ (k : Nat), k ≤ np ∧ kk = .int .i64 k ∧ tt = .string (ba (diagT f P k)) ∧ Below W.heap.size W wr) (fun _ kk _ => np - (intOf kk).toNat)
    case atStart => exact ⟨0, Nat.zero_le _, rfl, rfl, Below.refl _ _⟩
    case round =>
      obtain ⟨k, hk, rfl, rfl, hBw⟩ := hrel
      obtain ⟨so, hso⟩ : ∃ so, so = ba (diagT f P k) := ⟨_, rfl⟩
      rw [← hso]
      have hso' : Hid _ := hso
      clear hso
      have hlk := diagT_len hSm k hk
      by_cases hlt : k < np
      · have hRk := hR.train k hlt
        have hk' : (k : Int) < (np : Int) := by omega
        have hk0 : (0 : Int) ≤ (k : Int) := by omega
        have hBk := Below.join hB (Nat.le_refl _) hBw
        obtain ⟨b, off, la, lc, rfl, _, hb', t0, t1, t2, t3, t4, hlg, _⟩ := hT k hlt
        obtain ⟨bp, op, lp, lpc, rfl, _, hbp, p0, hin, _⟩ := hP k hlt
        have hcap := hC.at hlt p0
        rw [hQ.row k hlt] at p0 hin hcap
        replace t0 := cellLater hBk t0
        replace t1 := cellLater hBk t1
        replace t2 := cellLater hBk t2
        replace t3 := cellLater hBk t3
        replace t4 := cellLater hBk t4
        replace p0 := cellLater hBk p0
        replace x3 := cellLater hBw x3
        have hA1 := b1 wr (.cells #[.int .i64 (f k).frm, .int .i64 (f k).ready, .int .i64 (f k).due, .int .i64 (f k).weight, .slice la (f k).nl lc] 90)
        have hTb := Go.heap_alloc_new wr (.cells #[.int .i64 (f k).frm, .int .i64 (f k).ready, .int .i64 (f k).due, .int .i64 (f k).weight, .slice la (f k).nl lc] 90)
        have hlet := letter_run k (by omega)
        have hcl := courseT_len (hSm k hlt)
        have hd1 : Hid (diagT f P (k + 1) = diagT f P k ++ (letterT k ++ courseT (f k) (P k) ++ [10])) := rfl
        obtain ⟨sl, hsl⟩ : ∃ sl, sl = ba (letterT k) := ⟨_, rfl⟩
        obtain ⟨sc, hsc⟩ : ∃ sc, sc = ba (courseT (f k) (P k)) := ⟨_, rfl⟩
        have hll : (letterT k).length = 1 := rfl
        obtain ⟨r1, e1, f1⟩ := cat sl sc _ _ hsl hsc (by omega)
        obtain ⟨r2, e2, f2⟩ := cat r1 ⟨#[10]⟩ _ [10] f1.out rfl (by simp; omega)
        obtain ⟨r3, e3, f3⟩ := cat so r2 _ _ hso'.out f2.out (by simp; omega)
        have hr3 : Hid (r3 = ba (diagT f P (k + 1))) := by unfold Hid; rw [f3.out, hd1.out]
        rw [← hsl] at hlet
        go_wp2
        refine nameV fun V hV => ?_
        rw [← hV] at hA1 hTb
        clear hV t0 t1 t2 t3 t4
        replace x3 := cellLater hA1 x3
        replace p0 := cellLater hA1 p0
        have c0 := cell_of_row V wr.heap.size 0 _ _ _ hTb
        have c1 := cell_of_row V wr.heap.size 1 _ _ _ hTb
        have c2 := cell_of_row V wr.heap.size 2 _ _ _ hTb
        have c3 := cell_of_row V wr.heap.size 3 _ _ _ hTb
        have c4 := cell_of_row V wr.heap.size 4 _ _ _ hTb
        simp at c0 c1 c2 c3 c4
        have hBV := Below.join hBk (Nat.le_refl _) hA1
        have hCo := course_any (f k) (P k) la lc lp lpc V.drew hRk (hSm k hlt) (fun j hj => hQ.at0 k hlt j hj) hcap (hlg.grow hBV.drew) (hin.grow hBV.drew) (hTn.later hBV.drew)
        rw [← hsc] at hCo
        have hw32 : IntKind.i32.wrap (65 + (k : Int)) = 65 + (k : Int) := by rw [IntKind.wrap_i32]; omega
        have hw64 : IntKind.i64.wrap (65 + (k : Int)) = 65 + (k : Int) := by rw [IntKind.wrap_i64]; omega
        clear hTb hsl hsc f1 f2 f3
        go_region_held3 (fun w' => w'.cell? ⟨wr.heap.size, 0, none⟩ = some (.int .i64 (f k).frm) ∧ w'.cell? ⟨wr.heap.size, 1, none⟩ = some (.int .i64 (f k).ready) ∧ w'.cell? ⟨wr.heap.size, 2, none⟩ = some (.int .i64 (f k).due) ∧ w'.cell? ⟨wr.heap.size, 3, none⟩ = some (.int .i64 (f k).weight) ∧ w'.cell? ⟨wr.heap.size, 4, none⟩ = some (.slice la (f k).nl lc) ∧ w'.cell? ⟨w.heap.size + 1, 0, none⟩ = some (.slice (some ⟨bp, op, none⟩) np nc) ∧ w'.cell? ⟨bp, op + k, none⟩ = some (.slice lp (f k).nl lpc)) (first | go_keep | (go_split_ands; refine ⟨?_, ?_, ?_, ?_, ?_, ?_, ?_⟩ <;> exact cellLater hB3 (by assumption))) ((go_at_call 56; refine hCo.mono ?_; rintro _ w3 ⟨rfl, hB3⟩))
        go_wp2
        go_roundw
        case rel => exact ⟨k + 1, by omega, by go_num, by rw [hr3.out], Below.join (Below.join hBw (Nat.le_refl _) hA1.drew) (Nat.le_refl _) hB3⟩
        case measure => simp [intOf]; omega
      · obtain rfl : k = np := by omega
        go_wp2
        go_ret
        exact ⟨by rw [← hso'.out]; rfl, Below.join hB (Nat.le_refl _) hBw⟩
  · have hA : diagOf len g gap len' f np P = [] := by unfold diagOf; rw [if_neg (fun h => hz (by rw [h]))]
    rw [hA]
    clear hA
    generalize clashOf len g gap len' f np P = vq at hz hCh
    obtain ⟨v0, v1, v2, v3⟩ := vq
    dsimp only [clashV] at hz hCh
    have hz' : (v0 == 0) = false := by simpa using hz
    go_enter Tryz.func26, Tryz.ntmps26
    go_wp2_with (go_at_call 55; refine hCh.mono ?_; rintro _ w2 ⟨rfl, hB2⟩)
    go_ret
    exact ⟨rfl, Below.join hN (Nat.le_refl _) hB2⟩
end Go.Proofs.YthnlkpifafklkaaGreatDoor
