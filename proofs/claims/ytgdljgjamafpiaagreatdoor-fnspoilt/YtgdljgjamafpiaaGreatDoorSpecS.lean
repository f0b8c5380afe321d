/-
  The model's WriteLine: what it answers.
-/
import Derived.Test.YtgdljgjamafpiaaGreatDoorSpecT
import Derived.Test.YtgdljgjamafpiaaGreatDoorSpecK
import Derived.Deep.RegionHeld3
namespace Go.Proofs.YtgdljgjamafpiaaGreatDoor
open Go.RowKit

/-- what the text of a line is -/
def writeOf (len : Nat) (g : Nat → Int) (gap : Int) (np : Nat) (f : Nat → TrainD) : List UInt8 := if (faultOf len g gap np f).1 = 0 then lineT len g gap np f else []

set_option maxRecDepth 20000 in
set_option maxHeartbeats 8000000 in
theorem specWrite_any (a : Option Addr) (len cap : Nat) (g : Nat → Int) (gap : Int) (a' : Option Addr) (np cap' : Nat) (f : Nat → TrainD) (w : World) (hl : len ≤ 1048576) (hl' : np ≤ 1048576) (hml : ∀ j, j < np → (f j).nl ≤ 1048576)
    (hI : IsInts 0 w.heap.size w a len g) (hT : IsTrains 0 w.heap.size w a' np f) :
    Calls Tryz.prog 8 #[.agg #[.slice a len cap, .int .i64 gap, .slice a' np cap']] w fun e w' => e = .returned (.string (ba (writeOf len g gap np f))) ∧ Below w.heap.size w w' := by
  have hN := b1 w (.cells #[.slice a len cap, .int .i64 gap, .slice a' np cap'] 26)
  obtain ⟨y0, y1, y2⟩ := new3 w (.slice a len cap) (.int .i64 gap) (.slice a' np cap') 26
  by_cases hF : (faultOf len g gap np f).1 = 0
  · have hF0 := faultOf_snd hF
    have hS := smallL_of hF0
    have hR := rightL_of hF0
    have hA : writeOf len g gap np f = lineT len g gap np f := by unfold writeOf; rw [if_pos hF]
    rw [hA]
    have hok := l1ok_yes a len cap g gap a' np cap' f _ hl hl' hml (hI.grow hN) (hT.grow hN) hF0
    clear hA hF hF0
    have h12 := hS.l12
    have h5 := hS.n5
    go_enter Tryz.func8, Tryz.ntmps8
    go_wp2_with (go_at_call 23; refine hok.mono ?_; rintro _ W ⟨rfl, hB2⟩; have hB := Below.join hN (Nat.le_refl _) hB2; have x0 := cellLater hB2 y0; have x1 := cellLater hB2 y1; have x2 := cellLater hB2 y2)
    clear hok hB2 hN y0 y1 y2
    go_loopw [3, 16] (fun oo kk wr => ∃ (k : Nat), k ≤ len ∧ kk = .int .i64 k ∧ oo = .string (ba (tracksT g k)) ∧ Below W.heap.size W wr) (fun _ kk _ => len - (intOf kk).toNat)
    case atStart => exact ⟨0, Nat.zero_le _, rfl, rfl, Below.refl _ _⟩
    case round =>
      obtain ⟨k, hk, rfl, rfl, hBw⟩ := hrel
      obtain ⟨so, hso⟩ : ∃ so, so = ba (tracksT g k) := ⟨_, rfl⟩
      rw [← hso]
      have hso' : Hid _ := hso
      clear hso
      have hlk := tracksT_len hS.tk k hk
      by_cases hlt : k < len
      · have hk' : (k : Int) < (len : Int) := by omega
        have hk0 : (0 : Int) ≤ (k : Int) := by omega
        obtain ⟨h0, h1⟩ := hS.tk k hlt
        have hli := itoa_len h0 h1
        have hdec := l4decimal_any (g k) wr h0 h1
        obtain ⟨sd, hsd⟩ : ∃ sd, sd = ba (Lib.itoa (g k)) := ⟨_, rfl⟩
        rw [← hsd] at hdec
        obtain ⟨r1, e1, f1⟩ := cat ⟨#[32]⟩ sd [32] _ rfl hsd (by simp; omega)
        obtain ⟨r2, e2, f2⟩ := cat so r1 _ _ hso'.out f1.out (by simp; omega)
        clear hsd
        obtain ⟨b, off, rfl, _, hb, q0⟩ := hI k hlt
        replace q0 := cellLater (Below.join hB (Nat.le_refl _) hBw) q0
        go_wp2_with (go_at_call 24; refine hdec.mono ?_; rintro _ w5 ⟨rfl, hB5⟩)
        go_roundw
        case rel => exact ⟨k + 1, by omega, by go_num, by rw [f2.out]; rfl, Below.join hBw (Nat.le_refl _) hB5⟩
        case measure => simp [intOf]; omega
      · obtain rfl : k = len := by omega
        obtain ⟨h0, h1⟩ := hS.gp
        have hli := itoa_len h0 h1
        have hdec := l4decimal_any gap wr h0 h1
        obtain ⟨sd, hsd⟩ : ∃ sd, sd = ba (Lib.itoa gap) := ⟨_, rfl⟩
        rw [← hsd] at hdec
        obtain ⟨r1, e1, f1⟩ := cat ⟨#[10, 103, 97, 112, 32]⟩ sd [10, 103, 97, 112, 32] _ rfl hsd (by simp; omega)
        obtain ⟨r2, e2, f2⟩ := cat r1 ⟨#[10]⟩ _ [10] f1.out rfl (by simp; omega)
        obtain ⟨r3, e3, f3⟩ := cat so r2 _ _ hso'.out f2.out (by simp; omega)
        clear hsd
        have z1 := cellLater hBw x1
        have z2 := cellLater hBw x2
        go_wp2_with (go_at_call 24; refine hdec.mono ?_; rintro _ w5 ⟨rfl, hB5⟩; replace z2 := cellLater hB5 z2; have hBv := Below.join (Below.join hB (Nat.le_refl _) hBw) (Nat.le_refl _) hB5)
        have hhd : Hid (r3 = ba (headT k g gap)) := f3
        have hhl := headT_len hS
        clear f1 f2 f3 e1 e2 e3 hdec hB5 z1 hBw x0 x1 x2 hB hlt hlk
        go_loopw [3, 36] (fun oo jj wr => ∃ (j : Nat), j ≤ np ∧ jj = .int .i64 j ∧ oo = .string (ba (trainsT f (headT k g gap) j)) ∧ Below w5.heap.size w5 wr) (fun _ jj _ => np - (intOf jj).toNat)
        case atStart => exact ⟨0, Nat.zero_le _, rfl, by rw [hhd.out]; rfl, Below.refl _ _⟩
        case round =>
          clear hhd
          obtain ⟨j, hj, rfl, rfl, hBj⟩ := hrel
          obtain ⟨sj, hsj⟩ : ∃ sj, sj = ba (trainsT f (headT k g gap) j) := ⟨_, rfl⟩
          rw [← hsj]
          have hsj' : Hid _ := hsj
          clear hsj
          have hlj := trainsT_len (b := headT k g gap) hS j hj
          by_cases hlt : j < np
          · have hj' : (j : Int) < (np : Int) := by omega
            have hj0 : (0 : Int) ≤ (j : Int) := by omega
            obtain ⟨⟨hn0, hn1, hn2, hn3⟩, hnl⟩ := hS.tr j hlt
            have hBk := Below.join hBv (Nat.le_refl _) hBj
            obtain ⟨b, off, la, lc, rfl, _, hb', t0, t1, t2, t3, t4, hlg, _⟩ := hT j hlt
            replace t0 := cellLater hBk t0
            replace t1 := cellLater hBk t1
            replace t2 := cellLater hBk t2
            replace t3 := cellLater hBk t3
            replace t4 := cellLater hBk t4
            have hA1 := b1 wr (.cells #[.int .i64 (f j).frm, .int .i64 (f j).ready, .int .i64 (f j).due, .int .i64 (f j).weight, .slice la (f j).nl lc] 63)
            have hTb := Go.heap_alloc_new wr (.cells #[.int .i64 (f j).frm, .int .i64 (f j).ready, .int .i64 (f j).due, .int .i64 (f j).weight, .slice la (f j).nl lc] 63)
            obtain ⟨n00, n01⟩ := hn0
            obtain ⟨n10, n11⟩ := hn1
            obtain ⟨n20, n21⟩ := hn2
            obtain ⟨n30, n31⟩ := hn3
            have hi0 := itoa_len n00 n01
            have hi1 := itoa_len n10 n11
            have hi2 := itoa_len n20 n21
            have hi3 := itoa_len n30 n31
            obtain ⟨r1, e1, f1⟩ := cat ⟨#[116, 114, 97, 105, 110, 32]⟩ (ba (Lib.itoa (f j).frm)) [116, 114, 97, 105, 110, 32] _ rfl rfl (by simp; omega)
            obtain ⟨r2, e2, f2⟩ := cat r1 ⟨#[32, 114, 101, 97, 100, 121, 32]⟩ _ [32, 114, 101, 97, 100, 121, 32] f1.out rfl (by simp; omega)
            obtain ⟨r3, e3, f3⟩ := cat r2 (ba (Lib.itoa (f j).ready)) _ _ f2.out rfl (by simp; omega)
            obtain ⟨r4, e4, f4⟩ := cat r3 ⟨#[32, 100, 117, 101, 32]⟩ _ [32, 100, 117, 101, 32] f3.out rfl (by simp; omega)
            obtain ⟨r5, e5, f5⟩ := cat r4 (ba (Lib.itoa (f j).due)) _ _ f4.out rfl (by simp; omega)
            obtain ⟨r6, e6, f6⟩ := cat r5 ⟨#[32, 119, 101, 105, 103, 104, 116, 32]⟩ _ [32, 119, 101, 105, 103, 104, 116, 32] f5.out rfl (by simp; omega)
            obtain ⟨r7, e7, f7⟩ := cat r6 (ba (Lib.itoa (f j).weight)) _ _ f6.out rfl (by simp; omega)
            obtain ⟨r8, e8, f8⟩ := cat r7 ⟨#[10]⟩ _ [10] f7.out rfl (by simp; omega)
            obtain ⟨r9, e9, f9⟩ := cat sj r8 _ _ hsj'.out f8.out (by simp; omega)
            have hr9 : Hid (r9 = ba (trainsT f (headT k g gap) j ++ trainT (f j))) := f9
            clear f1 f2 f3 f4 f5 f6 f7 f8 f9 hi0 hi1 hi2 hi3
            go_wp2
            refine nameV fun V hV => ?_
            rw [← hV] at hA1 hTb
            clear hV t0 t1 t2 t3 t4
            have c0 := cell_of_row V wr.heap.size 0 _ _ _ hTb
            have c1 := cell_of_row V wr.heap.size 1 _ _ _ hTb
            have c2 := cell_of_row V wr.heap.size 2 _ _ _ hTb
            have c3 := cell_of_row V wr.heap.size 3 _ _ _ hTb
            have c4 := cell_of_row V wr.heap.size 4 _ _ _ hTb
            simp at c0 c1 c2 c3 c4
            have hVV : Below V.heap.size V V.drew := (Below.refl _ _).drew
            clear hTb
            go_region_held3 (fun w' => w'.cell? ⟨wr.heap.size, 0, none⟩ = some (.int .i64 (f j).frm) ∧ w'.cell? ⟨wr.heap.size, 1, none⟩ = some (.int .i64 (f j).ready) ∧ w'.cell? ⟨wr.heap.size, 2, none⟩ = some (.int .i64 (f j).due) ∧ w'.cell? ⟨wr.heap.size, 3, none⟩ = some (.int .i64 (f j).weight)) (first | go_keep | (go_split_ands; refine ⟨?_, ?_, ?_, ?_⟩ <;> exact cellLater hB6 (by assumption))) ((go_at_call 24; refine (l4decimal_any _ _ (by assumption) (by assumption)).mono ?_; rintro _ w6 ⟨rfl, hB6⟩; replace hVV := Below.join hVV (Nat.le_refl _) hB6))
            have c4' := cellLater hVV c4
            have hBV := Below.join (Below.join hBj (Nat.le_refl _) hA1) (Nat.le_refl _) hVV
            have hBx := Below.join hBv (Nat.le_refl _) hBV
            have hlb : (trainsT f (headT k g gap) j ++ trainT (f j)).length ≤ 3000 := by
              have := trainT_len (t := f j) ⟨⟨n00, n01⟩, ⟨n10, n11⟩, ⟨n20, n21⟩, ⟨n30, n31⟩⟩
              rw [List.length_append]; omega
            clear e1 e2 e3 e4 e5 e6 e7 e8 e9 hsj' hlj c0 c1 c2 c3 c4 hA1
            obtain ⟨B, hBe⟩ : ∃ B, B = trainsT f (headT k g gap) j ++ trainT (f j) := ⟨_, rfl⟩
            rw [← hBe] at hr9 hlb
            have hBe' : Hid _ := hBe
            clear hBe
            go_wp2
            clear c4'
            go_loopw [3, 65] (fun oo mm wr2 => ∃ (m : Nat), m ≤ (f j).nl ∧ mm = .int .i64 m ∧ oo = .string (ba (legsT (f j) B m)) ∧ Below w5.heap.size w5 wr2) (fun _ mm _ => (f j).nl - (intOf mm).toNat)
            case atStart => exact ⟨0, Nat.zero_le _, rfl, by rw [hr9.out]; rfl, hBV⟩
            case round =>
              clear hr9 hBV hBx
              obtain ⟨m, hm, rfl, rfl, hBm⟩ := hrel
              obtain ⟨sm, hsm⟩ : ∃ sm, sm = ba (legsT (f j) B m) := ⟨_, rfl⟩
              rw [← hsm]
              have hsm' : Hid _ := hsm
              clear hsm
              have hlm := legsT_len (t := f j) (b := B) (fun m hm => legT_len (hS.leg j hlt m hm)) m hm
              by_cases hmlt : m < (f j).nl
              · have hm' : (m : Int) < ((f j).nl : Int) := by omega
                have hm0 : (0 : Int) ≤ (m : Int) := by omega
                obtain ⟨⟨n00, n01⟩, ⟨n10, n11⟩, ⟨n20, n21⟩⟩ := hS.leg j hlt m hmlt
                have hBw := Below.join hBv (Nat.le_refl _) hBm
                obtain ⟨bl, ol, rfl, _, hbl, g0, g1, g2⟩ := hlg m hmlt
                replace g0 := cellLater hBw g0
                replace g1 := cellLater hBw g1
                replace g2 := cellLater hBw g2
                have hA1 := b1 wr (.cells #[.int .i64 ((f j).leg m).to, .int .i64 ((f j).leg m).run, .int .i64 ((f j).leg m).stay] 68)
                have hTb := Go.heap_alloc_new wr (.cells #[.int .i64 ((f j).leg m).to, .int .i64 ((f j).leg m).run, .int .i64 ((f j).leg m).stay] 68)
                have hi0 := itoa_len n00 n01
                have hi1 := itoa_len n10 n11
                have hi2 := itoa_len n20 n21
                obtain ⟨r1, e1, f1⟩ := cat ⟨#[108, 101, 103, 32]⟩ (ba (Lib.itoa ((f j).leg m).to)) [108, 101, 103, 32] _ rfl rfl (by simp; omega)
                obtain ⟨r2, e2, f2⟩ := cat r1 ⟨#[32, 114, 117, 110, 32]⟩ _ [32, 114, 117, 110, 32] f1.out rfl (by simp; omega)
                obtain ⟨r3, e3, f3⟩ := cat r2 (ba (Lib.itoa ((f j).leg m).run)) _ _ f2.out rfl (by simp; omega)
                obtain ⟨r4, e4, f4⟩ := cat r3 ⟨#[32, 115, 116, 97, 121, 32]⟩ _ [32, 115, 116, 97, 121, 32] f3.out rfl (by simp; omega)
                obtain ⟨r5, e5, f5⟩ := cat r4 (ba (Lib.itoa ((f j).leg m).stay)) _ _ f4.out rfl (by simp; omega)
                obtain ⟨r6, e6, f6⟩ := cat r5 ⟨#[10]⟩ _ [10] f5.out rfl (by simp; omega)
                obtain ⟨r7, e7, f7⟩ := cat sm r6 _ _ hsm'.out f6.out (by simp; omega)
                have hr7 : Hid (r7 = ba (legsT (f j) B (m + 1))) := f7
                clear f1 f2 f3 f4 f5 f6 f7 hi0 hi1 hi2
                go_wp2
                refine nameV fun V hV => ?_
                rw [← hV] at hA1 hTb
                clear hV g0 g1 g2
                have c0 := cell_of_row V wr.heap.size 0 _ _ _ hTb
                have c1 := cell_of_row V wr.heap.size 1 _ _ _ hTb
                have c2 := cell_of_row V wr.heap.size 2 _ _ _ hTb
                simp at c0 c1 c2
                have hVV : Below V.heap.size V V.drew := (Below.refl _ _).drew
                clear hTb
                go_region_held3 (fun w' => w'.cell? ⟨wr.heap.size, 0, none⟩ = some (.int .i64 ((f j).leg m).to) ∧ w'.cell? ⟨wr.heap.size, 1, none⟩ = some (.int .i64 ((f j).leg m).run) ∧ w'.cell? ⟨wr.heap.size, 2, none⟩ = some (.int .i64 ((f j).leg m).stay)) (first | go_keep | (go_split_ands; refine ⟨?_, ?_, ?_⟩ <;> exact cellLater hB6 (by assumption))) ((go_at_call 24; refine (l4decimal_any _ _ (by assumption) (by assumption)).mono ?_; rintro _ w6 ⟨rfl, hB6⟩; replace hVV := Below.join hVV (Nat.le_refl _) hB6))
                go_wp2
                go_roundw
                case rel => exact ⟨m + 1, by omega, by go_num, by rw [hr7.out], Below.join (Below.join hBm (Nat.le_refl _) hA1) (Nat.le_refl _) hVV⟩
                case measure => simp [intOf]; omega
              · obtain rfl : m = (f j).nl := by omega
                go_wp2
                go_roundw
                case rel => exact ⟨j + 1, by omega, by go_num, by rw [hsm'.out, hBe'.out]; rfl, hBm⟩
                case measure => simp [intOf]; omega
          · obtain rfl : j = np := by omega
            go_wp2
            go_ret
            exact ⟨by rw [hsj'.out]; rfl, Below.join hBv (Nat.le_refl _) hBj⟩
  · have hA : writeOf len g gap np f = [] := by unfold writeOf; rw [if_neg hF]
    rw [hA]
    have hok := l1ok_no a len cap g gap a' np cap' f _ hl hl' hml (hI.grow hN) (hT.grow hN) hF
    clear hA hF
    go_enter Tryz.func8, Tryz.ntmps8
    go_wp2_with (go_at_call 23; refine hok.mono ?_; rintro _ w2 ⟨rfl, hB2⟩)
    go_ret
    exact ⟨rfl, Below.join hN (Nat.le_refl _) hB2⟩
end Go.Proofs.YtgdljgjamafpiaaGreatDoor
