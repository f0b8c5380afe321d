/-
  The model's Cost: what it answers.
-/
import Derived.Test.YtnkcolffjkjclabDoorSpecE
import Derived.Test.YtnkcolffjkjclabDoorLateP
namespace Go.Proofs.YtnkcolffjkjclabDoor
open Go.RowKit

set_option maxRecDepth 20000 in
set_option maxHeartbeats 8000000 in
theorem specCost_any (a : Option Addr) (len cap : Nat) (g : Nat → Int) (gap : Int) (a' : Option Addr) (len' cap' : Nat) (f : Nat → TrainD) (c : Option Addr) (np nc : Nat) (P : Nat → RowD) (w : World) (hl : len ≤ 1048576) (hl' : len' ≤ 1048576) (hml : ∀ j, j < len' → (f j).nl ≤ 1048576) (hp : np ≤ 1048576) (hmp : ∀ j, j < np → (P j).n ≤ 1048576)
    (hI : IsInts 0 w.heap.size w a len g) (hT : IsTrains 0 w.heap.size w a' len' f) (hP : IsRows 0 w.heap.size w c np P) :
    Calls Tryd.prog 17 #[.agg #[.slice a len cap, .int .i64 gap, .slice a' len' cap'], .agg #[.slice c np nc]] w fun e w' => e = .returned (.int .i64 (costOf len g gap len' f np P)) ∧ Below w.heap.size w w' := by
  obtain ⟨y0, y1, y2, u0⟩ := box2 w a len cap gap a' len' cap' c np nc 36 38
  have hN := b2 w (.cells #[.slice a len cap, .int .i64 gap, .slice a' len' cap'] 36) (.cells #[.slice c np nc] 38)
  have hCh := specCheck_any a len cap g gap a' len' cap' f c np nc P _ hl hl' hml hp hmp (hI.grow hN) (hT.grow hN) (hP.grow hN)
  rcases clashOf_or len g gap len' f np P with hz | hz
  · have hA : costOf len g gap len' f np P = costP f P len' := by unfold costOf; rw [if_pos hz]
    obtain ⟨hF, hS⟩ := clashOf_ok hz
    have hF0 := faultOf_snd hF
    have hR := rightL_of hF0
    have hQ := rightP_of hS
    obtain rfl : np = len' := hQ.np
    have hAr : ∀ k : Nat, k < np → arrivesOf len g gap np f np P (k : Int) = endP f P k := fun k hk => by
      unfold arrivesOf
      rw [if_pos ⟨hF, hS, decide_eq_true ⟨by omega, by omega⟩⟩, Int.toNat_natCast]
      rfl
    rw [hA]
    rw [hz] at hCh
    dsimp only at hCh
    clear hA hz hF hF0 hS
    have htr := hR.tr
    have tok : True := trivial
    go_enter Tryd.func17, Tryd.ntmps17
    go_wp2_with (go_at_call 8; refine hCh.mono ?_; rintro _ w2 ⟨rfl, hB2⟩; have hB := Below.join hN (Nat.le_refl _) hB2; have x0 := cellLater hB2 y0; have x1 := cellLater hB2 y1; have x2 := cellLater hB2 y2; have x3 := cellLater hB2 u0; have lw := ltCell x2)
    have hA1 := b1 w2 (.cells #[.int .i64 0, .int .i64 0, .int .i64 0, .int .i64 0] 32)
    refine nameW fun W hW => ?_
    rw [← hW] at hA1
    clear hW
    replace hB := Below.join hB (Nat.le_refl _) hA1
    replace x0 := cellLater hA1 x0
    replace x1 := cellLater hA1 x1
    replace x2 := cellLater hA1 x2
    replace x3 := cellLater hA1 x3
    clear hA1 hB2 lw hCh
    go_loopw [6, 18] (fun tt kk wr => ∃ (k : Nat), k ≤ np ∧ kk = .int .i64 k ∧ tt = .int .i64 (costP f P k) ∧ Below W.heap.size W wr) (fun _ kk _ => np - (intOf kk).toNat)
    case atStart => exact ⟨0, Nat.zero_le _, rfl, rfl, Below.refl _ _⟩
    case round =>
      obtain ⟨k, hk, rfl, rfl, hBw⟩ := hrel
      by_cases hlt : k < np
      · have hRk := hR.train k hlt
        have hb := costP_bd hR hQ k hk
        obtain ⟨en0, en1⟩ := endP_bd hR hQ hlt
        obtain ⟨la0, la1⟩ := lateOf_bdP hRk en0 en1
        have hk' : (k : Int) < (np : Int) := by omega
        have hk0 : (0 : Int) ≤ (k : Int) := by omega
        have hBk := Below.join hB (Nat.le_refl _) hBw
        obtain ⟨b, off, la, lc, rfl, _, hb', t0, t1, t2, t3, t4, hlg, _⟩ := hT k hlt
        replace t0 := cellLater hBk t0
        replace t1 := cellLater hBk t1
        replace t2 := cellLater hBk t2
        replace t3 := cellLater hBk t3
        replace t4 := cellLater hBk t4
        replace x0 := cellLater hBw x0
        replace x1 := cellLater hBw x1
        replace x2 := cellLater hBw x2
        replace x3 := cellLater hBw x3
        have hA1 := b1 wr (.cells #[.int .i64 (f k).frm, .int .i64 (f k).ready, .int .i64 (f k).due, .int .i64 (f k).weight, .slice la (f k).nl lc] 56)
        have hTb := Go.heap_alloc_new wr (.cells #[.int .i64 (f k).frm, .int .i64 (f k).ready, .int .i64 (f k).due, .int .i64 (f k).weight, .slice la (f k).nl lc] 56)
        have hAk := hAr k hlt
        go_wp2
        refine nameW fun V hV => ?_
        rw [← hV] at hA1 hTb
        clear hV t0 t1 t2 t3 t4
        replace x0 := cellLater hA1 x0
        replace x1 := cellLater hA1 x1
        replace x2 := cellLater hA1 x2
        replace x3 := cellLater hA1 x3
        have e0 := cell_of_row V wr.heap.size 0 _ _ _ hTb
        have e1 := cell_of_row V wr.heap.size 1 _ _ _ hTb
        have e2 := cell_of_row V wr.heap.size 2 _ _ _ hTb
        have e3 := cell_of_row V wr.heap.size 3 _ _ _ hTb
        have e4 := cell_of_row V wr.heap.size 4 _ _ _ hTb
        simp at e0 e1 e2 e3 e4
        have hBV := Below.join hBk (Nat.le_refl _) hA1
        have hCa := specArrives_any a len cap g gap (some ⟨b, off, none⟩) np cap' f c np nc P (k : Int) V.drew hl hl' hml hp hmp (hI.grow hBV.drew) (hT.grow hBV.drew) (hP.grow hBV.drew)
        rw [hAk] at hCa
        clear hAk hTb
        go_region_held3 (fun w' => w'.cell? ⟨wr.heap.size, 0, none⟩ = some (.int .i64 (f k).frm) ∧ w'.cell? ⟨wr.heap.size, 1, none⟩ = some (.int .i64 (f k).ready) ∧ w'.cell? ⟨wr.heap.size, 2, none⟩ = some (.int .i64 (f k).due) ∧ w'.cell? ⟨wr.heap.size, 3, none⟩ = some (.int .i64 (f k).weight) ∧ w'.cell? ⟨wr.heap.size, 4, none⟩ = some (.slice la (f k).nl lc) ∧ w'.cell? ⟨w.heap.size, 0, none⟩ = some (.slice a len cap) ∧ w'.cell? ⟨w.heap.size, 1, none⟩ = some (.int .i64 gap) ∧ w'.cell? ⟨w.heap.size, 2, none⟩ = some (.slice (some ⟨b, off, none⟩) np cap') ∧ w'.cell? ⟨w.heap.size + 1, 0, none⟩ = some (.slice c np nc)) (first | go_keep | (go_split_ands; refine ⟨?_, ?_, ?_, ?_, ?_, ?_, ?_, ?_, ?_⟩ <;> exact cellLater hB3 (by assumption)) | (go_split_ands; refine ⟨?_, ?_, ?_, ?_, ?_, ?_, ?_, ?_, ?_⟩ <;> exact cellLater hB4 (by assumption))) ((first | (go_at_call 15; refine hCa.mono ?_; rintro _ w3 ⟨rfl, hB3⟩) | (go_at_call 43; refine (l1lateP_any (f k) _ _ _ _ hRk en0 en1).mono ?_; rintro _ w4 ⟨rfl, hB4⟩)))
        go_wp2
        go_roundw
        case rel => exact ⟨k + 1, by omega, by go_num, (by simp only [costP]; first | rfl | (rw [IntKind.wrap_i64]; congr 1; omega)), Below.join (Below.join (Below.join hBw (Nat.le_refl _) hA1.drew) (Nat.le_refl _) hB3) (Nat.le_refl _) hB4⟩
        case measure => simp [intOf]; omega
      · obtain rfl : k = np := by omega
        go_wp2
        go_ret
        exact ⟨rfl, Below.join hB (Nat.le_refl _) hBw⟩
  · have hA : costOf len g gap len' f np P = -1 := by unfold costOf; rw [if_neg (fun h => hz (by rw [h]))]
    rw [hA]
    clear hA
    generalize clashOf len g gap len' f np P = vq at hz hCh
    obtain ⟨v0, v1, v2, v3⟩ := vq
    dsimp only at hz hCh
    have hz' : (v0 != 0) = true := by simpa using hz
    go_enter Tryd.func17, Tryd.ntmps17
    go_wp2_with (go_at_call 8; refine hCh.mono ?_; rintro _ w2 ⟨rfl, hB2⟩)
    go_ret
    exact ⟨rfl, Below.join (Below.join hN (Nat.le_refl _) hB2) (Nat.le_refl _) (b1 _ _)⟩
end Go.Proofs.YtnkcolffjkjclabDoor
