/-
  The program's WriteLine: what it answers.
-/
import Derived.Test.YtgdljgjamafpiaaGreatDoorRowI
import Derived.Test.YtgdljgjamafpiaaGreatDoorIsRight
namespace Go.Proofs.YtgdljgjamafpiaaGreatDoor
open Go.RowKit

theorem ints1_new (W : World) (x : Int) (t : TypeId) : IsInts 0 (W.alloc (.cells #[.int .i64 x] t)).heap.size (W.alloc (.cells #[.int .i64 x] t)) (some ⟨W.heap.size, 0, none⟩) 1 (fun i => [x].getD i 0) := fun j hj => by
  obtain rfl : j = 0 := by omega
  exact ⟨W.heap.size, 0, rfl, Nat.zero_le _, by simp, by simp⟩
theorem ints3_new (W : World) (x y z : Int) (t : TypeId) (bk : Nat) (hbk : W.heap.size = bk) : IsInts 0 (W.alloc (.cells #[.int .i64 x, .int .i64 y, .int .i64 z] t)).heap.size (W.alloc (.cells #[.int .i64 x, .int .i64 y, .int .i64 z] t)) (some ⟨bk, 0, none⟩) 3 (fun i => [x, y, z].getD i 0) := fun j hj => by
  subst hbk
  exact ⟨W.heap.size, 0, rfl, Nat.zero_le _, by simp, by match j, hj with
    | 0, _ => simp
    | 1, _ => simp
    | 2, _ => simp⟩
theorem ints4_new (W : World) (x y z u : Int) (t : TypeId) (bk : Nat) (hbk : W.heap.size = bk) : IsInts 0 (W.alloc (.cells #[.int .i64 x, .int .i64 y, .int .i64 z, .int .i64 u] t)).heap.size (W.alloc (.cells #[.int .i64 x, .int .i64 y, .int .i64 z, .int .i64 u] t)) (some ⟨bk, 0, none⟩) 4 (fun i => [x, y, z, u].getD i 0) := fun j hj => by
  subst hbk
  exact ⟨W.heap.size, 0, rfl, Nat.zero_le _, by simp, by match j, hj with
    | 0, _ => simp
    | 1, _ => simp
    | 2, _ => simp
    | 3, _ => simp⟩
theorem below_alloc {n : Nat} {A B : World} (h : Below n A B) (hn : n ≤ A.heap.size) (o : Obj) : Below n A (B.alloc o) := h.alloc (Nat.le_trans hn h.size) _

set_option maxRecDepth 20000 in
set_option maxHeartbeats 8000000 in
theorem implWrite_any (a : Option Addr) (len cap : Nat) (g : Nat → Int) (gap : Int) (a' : Option Addr) (np cap' : Nat) (f : Nat → TrainD) (w : World) (hl : len ≤ 1048576) (hl' : np ≤ 1048576) (hml : ∀ j, j < np → (f j).nl ≤ 1048576)
    (hI : IsInts 0 w.heap.size w a len g) (hT : IsTrains 0 w.heap.size w a' np f) (hg : w.cell? ⟨0, 0, none⟩ = some (.iface 150 (.agg #[.pointer (some ⟨6, 57, none⟩)]))) (hW : WordsIs w) (hTn : TenIs w) :
    Calls Tryz.prog 7 #[.agg #[.slice a len cap, .int .i64 gap, .slice a' np cap']] w fun e w' => e = .returned (.string (ba (writeOf len g gap np f))) ∧ Below w.heap.size w w' := by
  have hN := b1 w (.cells #[.slice a len cap, .int .i64 gap, .slice a' np cap'] 26)
  obtain ⟨y0, y1, y2⟩ := new3 w (.slice a len cap) (.int .i64 gap) (.slice a' np cap') 26
  by_cases hF : (faultOf len g gap np f).1 = 0
  · have hF0 := faultOf_snd hF
    have hS := smallL_of hF0
    have hA : writeOf len g gap np f = lineT len g gap np f := by unfold writeOf; rw [if_pos hF]
    rw [hA]
    have hok := isRight_yes a len cap g gap a' np cap' f _ hl hl' hml (hI.grow hN) (hT.grow hN) (cellLater hN hg) hF0
    clear hA hF hF0
    have h12 := hS.l12
    have h5 := hS.n5
    have hl1 := hS.l1
    obtain ⟨s0, hs0⟩ : ∃ s0, s0 = ba (rowT (wordsOf 0) g len) := ⟨_, rfl⟩
    obtain ⟨s1, hs1⟩ : ∃ s1, s1 = ba (rowT (wordsOf 1) (fun i => [gap].getD i 0) 1) := ⟨_, rfl⟩
    have hr0 : ∀ (V : World) (args : Array Value), args = #[.int .i64 0, .slice a len cap] → Below w.heap.size w V → Calls Tryz.prog 22 args V fun e w' => e = .returned (.string s0) ∧ Below V.heap.size V w' := fun V args ha hV => by
      subst ha; rw [hs0]
      exact rowOf_any 0 g len a cap V (by omega) h12 hS.tk (hI.grow hV) (hW.later hV) (hTn.later hV)
    have hr1 : ∀ (V : World) (args : Array Value) (bk : Nat), args = #[.int .i64 1, .slice (some ⟨bk, 0, none⟩) 1 1] → Below w.heap.size w V → V.cell? ⟨bk, 0, none⟩ = some (.int .i64 gap) → Calls Tryz.prog 22 args V fun e w' => e = .returned (.string s1) ∧ Below V.heap.size V w' := fun V args bk ha hV hc => by
      subst ha; rw [hs1]
      refine rowOf_any 1 (fun i => [gap].getD i 0) 1 (some ⟨bk, 0, none⟩) 1 V (by omega) (by omega) (fun i hi => ?_) (fun j hj => ?_) (hW.later hV) (hTn.later hV)
      · obtain rfl : i = 0 := by omega
        exact hS.gp
      · obtain rfl : j = 0 := by omega
        exact ⟨bk, 0, rfl, Nat.zero_le _, ltCell hc, hc⟩
    have hhe := head_eq g gap hl1
    have hhl := headT_len hS
    have hl01 : (rowT (wordsOf 0) g len).length + (rowT (wordsOf 1) (fun i => [gap].getD i 0) 1).length ≤ 200 := by rw [← List.length_append, hhe]; exact hhl
    obtain ⟨r1, e1, f1⟩ := cat s0 s1 _ _ hs0 hs1 (by omega)
    have hr1h : Hid (r1 = ba (headT len g gap)) := by unfold Hid; rw [f1.out, hhe]
    clear f1 hs0 hs1 hhe hl01
    go_enter Tryz.func7, Tryz.ntmps7
    go_wp2_with (go_at_call 21; refine hok.mono ?_; rintro _ W ⟨rfl, hB2⟩; have hB := Below.join hN (Nat.le_refl _) hB2; have x0 := cellLater hB2 y0; have x1 := cellLater hB2 y1; have x2 := cellLater hB2 y2)
    clear hok hB2 hN y0 y1 y2
    have hBV : Below w.heap.size w W.drew := hB.drew
    go_region_held3 (fun w' => w'.cell? ⟨w.heap.size, 0, none⟩ = some (.slice a len cap) ∧ w'.cell? ⟨w.heap.size, 1, none⟩ = some (.int .i64 gap) ∧ w'.cell? ⟨w.heap.size, 2, none⟩ = some (.slice a' np cap')) (first | go_keep | (go_split_ands; refine ⟨?_, ?_, ?_⟩ <;> exact cellLater hB3 (by assumption)) | (go_split_ands; refine ⟨?_, ?_, ?_⟩ <;> exact cellLater hB4 (by assumption))) ((first | (go_at_call 22; refine (hr0 _ _ (by rfl) (by first | exact hBV | exact below_alloc hBV (Nat.le_refl _) _)).mono ?_; rintro _ w3 ⟨rfl, hB3⟩) | (go_at_call 22; refine (hr1 _ _ _ (by rfl) (by first | exact Below.join hBV (Nat.le_refl _) hB3 | exact below_alloc (Below.join hBV (Nat.le_refl _) hB3) (Nat.le_refl _) _ | exact Below.join (below_alloc hBV (Nat.le_refl _) _) (Nat.le_refl _) hB3) (by first | (simp; done) | exact cellLater hB3 (by simp))).mono ?_; rintro _ w4 ⟨rfl, hB4⟩)))
    all_goals
      have hWx : Below W.heap.size W w4 := by first | exact Below.join (below_alloc (Below.join (Below.refl W.heap.size W).drew (Nat.le_refl _) hB3) (Nat.le_refl _) _) (Nat.le_refl _) hB4 | exact Below.join (Below.join (below_alloc (Below.refl W.heap.size W).drew (Nat.le_refl _) _) (Nat.le_refl _) hB3) (Nat.le_refl _) hB4
      have hBv := Below.join hB (Nat.le_refl _) hWx
      have z2 := cellLater hWx x2
      clear hr0 hr1 e1 hB3 hB4 hWx x0 x1 x2 hBV hB
      go_wp2
      clear z2
      go_loopw [3, 22] (fun oo jj wr => ∃ (j : Nat), j ≤ np ∧ jj = .int .i64 j ∧ oo = .string (ba (trainsT f (headT len g gap) j)) ∧ Below w4.heap.size w4 wr) (fun _ jj _ => np - (intOf jj).toNat)
      case atStart => exact ⟨0, Nat.zero_le _, rfl, by rw [hr1h.out]; rfl, Below.refl _ _⟩
      case round =>
        clear hr1h
        obtain ⟨j, hj, rfl, rfl, hBj⟩ := hrel
        obtain ⟨sj, hsj⟩ : ∃ sj, sj = ba (trainsT f (headT len g gap) j) := ⟨_, rfl⟩
        rw [← hsj]
        have hsj' : Hid _ := hsj
        clear hsj
        have hlj := trainsT_len (b := headT len g gap) hS j hj
        by_cases hlt : j < np
        · have hj' : (j : Int) < (np : Int) := by omega
          have hj0 : (0 : Int) ≤ (j : Int) := by omega
          obtain ⟨hns, hnl⟩ := hS.tr j hlt
          have htl := trainT_len hns
          have hBk := Below.join hBv (Nat.le_refl _) hBj
          obtain ⟨b, off, la, lc, rfl, _, hb', t0, t1, t2, t3, t4, hlg, _⟩ := hT j hlt
          replace t0 := cellLater hBk t0
          replace t1 := cellLater hBk t1
          replace t2 := cellLater hBk t2
          replace t3 := cellLater hBk t3
          replace t4 := cellLater hBk t4
          have hA1 := b2 wr (.cells #[.int .i64 (f j).frm, .int .i64 (f j).ready, .int .i64 (f j).due, .int .i64 (f j).weight, .slice la (f j).nl lc] 63) (.cells #[.int .i64 (f j).frm, .int .i64 (f j).ready, .int .i64 (f j).due, .int .i64 (f j).weight] 3)
          have hBa := Below.join hBk (Nat.le_refl _) hA1
          obtain ⟨r8, h8⟩ : ∃ r8, r8 = ba (trainT (f j)) := ⟨_, rfl⟩
          obtain ⟨r9, e9, f9⟩ := cat sj r8 _ _ hsj'.out h8 (by omega)
          have hrow := rowOf_any 2 (fun i => [(f j).frm, (f j).ready, (f j).due, (f j).weight].getD i 0) 4 _ 4 _ (by omega) (by omega) (fun i hi => by match i, hi with
            | 0, _ => exact hns.1
            | 1, _ => exact hns.2.1
            | 2, _ => exact hns.2.2.1
            | 3, _ => exact hns.2.2.2) (ints4_new (wr.alloc (.cells #[.int .i64 (f j).frm, .int .i64 (f j).ready, .int .i64 (f j).due, .int .i64 (f j).weight, .slice la (f j).nl lc] 63)) (f j).frm (f j).ready (f j).due (f j).weight 3 (wr.heap.size + 1) (by simp)) (hW.later hBa) (hTn.later hBa)
          rw [rowT_train, ← h8] at hrow
          have c4 : ((wr.alloc (.cells #[.int .i64 (f j).frm, .int .i64 (f j).ready, .int .i64 (f j).due, .int .i64 (f j).weight, .slice la (f j).nl lc] 63)).alloc (.cells #[.int .i64 (f j).frm, .int .i64 (f j).ready, .int .i64 (f j).due, .int .i64 (f j).weight] 3)).cell? ⟨wr.heap.size, 4, none⟩ = some (.slice la (f j).nl lc) := cellLater (b1 _ _) (by simp)
          clear h8
          go_wp2_with (go_at_call 22; refine hrow.mono ?_; rintro _ w6 ⟨rfl, hB6⟩; replace c4 := cellLater hB6 c4)
          have hBx := Below.join hBa (Nat.le_refl _) hB6
          have hB7 := Below.join (Below.join hBj (Nat.le_refl _) hA1) (Nat.le_refl _) hB6
          have hr9 : Hid (r9 = ba (trainsT f (headT len g gap) j ++ trainT (f j))) := f9
          have hlb : (trainsT f (headT len g gap) j ++ trainT (f j)).length ≤ 3000 := by rw [List.length_append]; omega
          obtain ⟨B, hBe⟩ : ∃ B, B = trainsT f (headT len g gap) j ++ trainT (f j) := ⟨_, rfl⟩
          rw [← hBe] at hr9 hlb
          have hBe' : Hid _ := hBe
          clear hBe c4 e9 f9 hrow hA1 hB6 hsj' hlj hBa t0 t1 t2 t3 t4
          go_loopw [3, 41] (fun oo mm wr2 => ∃ (m : Nat), m ≤ (f j).nl ∧ mm = .int .i64 m ∧ oo = .string (ba (legsT (f j) B m)) ∧ Below w4.heap.size w4 wr2) (fun _ mm _ => (f j).nl - (intOf mm).toNat)
          case atStart => exact ⟨0, Nat.zero_le _, rfl, by rw [hr9.out]; rfl, hB7⟩
          case round =>
            clear hr9 hB7 hBx
            obtain ⟨m, hm, rfl, rfl, hBm⟩ := hrel
            obtain ⟨sm, hsm⟩ : ∃ sm, sm = ba (legsT (f j) B m) := ⟨_, rfl⟩
            rw [← hsm]
            have hsm' : Hid _ := hsm
            clear hsm
            have hlm := legsT_len (t := f j) (b := B) (fun m hm => legT_len (hS.leg j hlt m hm)) m hm
            by_cases hmlt : m < (f j).nl
            · have hm' : (m : Int) < ((f j).nl : Int) := by omega
              have hm0 : (0 : Int) ≤ (m : Int) := by omega
              have hls := hS.leg j hlt m hmlt
              have hll := legT_len hls
              have hBw := Below.join hBv (Nat.le_refl _) hBm
              obtain ⟨bl, ol, rfl, _, hbl, g0, g1, g2⟩ := hlg m hmlt
              replace g0 := cellLater hBw g0
              replace g1 := cellLater hBw g1
              replace g2 := cellLater hBw g2
              have hA1 := b2 wr (.cells #[.int .i64 ((f j).leg m).to, .int .i64 ((f j).leg m).run, .int .i64 ((f j).leg m).stay] 68) (.cells #[.int .i64 ((f j).leg m).to, .int .i64 ((f j).leg m).run, .int .i64 ((f j).leg m).stay] 3)
              have hBa := Below.join hBw (Nat.le_refl _) hA1
              obtain ⟨r6, h6⟩ : ∃ r6, r6 = ba (legT ((f j).leg m)) := ⟨_, rfl⟩
              obtain ⟨r7, e7, f7⟩ := cat sm r6 _ _ hsm'.out h6 (by omega)
              have hrow := rowOf_any 3 (fun i => [((f j).leg m).to, ((f j).leg m).run, ((f j).leg m).stay].getD i 0) 3 _ 3 _ (by omega) (by omega) (fun i hi => by match i, hi with
                | 0, _ => exact hls.1
                | 1, _ => exact hls.2.1
                | 2, _ => exact hls.2.2) (ints3_new (wr.alloc (.cells #[.int .i64 ((f j).leg m).to, .int .i64 ((f j).leg m).run, .int .i64 ((f j).leg m).stay] 68)) ((f j).leg m).to ((f j).leg m).run ((f j).leg m).stay 3 (wr.heap.size + 1) (by simp)) (hW.later hBa) (hTn.later hBa)
              rw [rowT_leg, ← h6] at hrow
              have hr7 : Hid (r7 = ba (legsT (f j) B (m + 1))) := f7
              clear h6 f7
              go_wp2_with (go_at_call 22; refine hrow.mono ?_; rintro _ w6 ⟨rfl, hB6⟩)
              go_roundw
              case rel => exact ⟨m + 1, by omega, by go_num, by rw [hr7.out], Below.join (Below.join hBm (Nat.le_refl _) hA1) (Nat.le_refl _) hB6⟩
              case measure => simp [intOf]; omega
            · obtain rfl : m = (f j).nl := by omega
              go_wp2
              go_roundw
              case rel => exact ⟨j + 1, by omega, by go_num, by rw [hsm'.out, hBe'.out]; rfl, hBm⟩
              case measure => simp [intOf]; omega
        · obtain rfl : j = np := by omega
          go_wp2
          go_ret
          exact ⟨by rw [hsj'.out]; rfl, Below.join hBv (Nat.le_refl _) hBj⟩
  · have hA : writeOf len g gap np f = [] := by unfold writeOf; rw [if_neg hF]
    rw [hA]
    have hok := isRight_no a len cap g gap a' np cap' f _ hl hl' hml (hI.grow hN) (hT.grow hN) (cellLater hN hg) hF
    clear hA hF
    go_enter Tryz.func7, Tryz.ntmps7
    go_wp2_with (go_at_call 21; refine hok.mono ?_; rintro _ w2 ⟨rfl, hB2⟩)
    go_ret
    exact ⟨rfl, Below.join hN (Nat.le_refl _) hB2⟩
end Go.Proofs.YtgdljgjamafpiaaGreatDoor
