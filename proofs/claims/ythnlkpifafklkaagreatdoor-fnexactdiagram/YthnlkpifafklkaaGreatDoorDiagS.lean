/-
  The model's Diagram: what it answers.
-/
import Derived.Test.YthnlkpifafklkaaGreatDoorSpecR
import Derived.Test.YthnlkpifafklkaaGreatDoorSpecE
import Derived.Test.YthnlkpifafklkaaGreatDoorTextA
import Derived.Test.YthnlkpifafklkaaGreatDoorCourseA
namespace Go.Proofs.YthnlkpifafklkaaGreatDoor
open Go.RowKit

set_option maxRecDepth 20000 in
set_option maxHeartbeats 8000000 in
theorem specDiag_any (a : Option Addr) (len cap : Nat) (g : Nat → Int) (gap : Int) (a' : Option Addr) (len' cap' : Nat) (f : Nat → TrainD) (c : Option Addr) (np nc : Nat) (P : Nat → RowD) (w : World) (hl : len ≤ 1048576) (hl' : len' ≤ 1048576) (hml : ∀ j, j < len' → (f j).nl ≤ 1048576) (hp : np ≤ 1048576) (hmp : ∀ j, j < np → (P j).n ≤ 1048576)
    (hI : IsInts 0 w.heap.size w a len g) (hT : IsTrains 0 w.heap.size w a' len' f) (hP : IsRows 0 w.heap.size w c np P) :
    Calls Tryz.prog 24 #[.agg #[.slice a len cap, .int .i64 gap, .slice a' len' cap'], .agg #[.slice c np nc]] w fun e w' => e = .returned (.string (ba (diagOf len g gap len' f np P))) ∧ Below w.heap.size w w' := by
  obtain ⟨y0, y1, y2, u0⟩ := box2 w a len cap gap a' len' cap' c np nc 35 29
  have hN := b2 w (.cells #[.slice a len cap, .int .i64 gap, .slice a' len' cap'] 35) (.cells #[.slice c np nc] 29)
  have hCh := specCheck_any a len cap g gap a' len' cap' f c np nc P _ hl hl' hml hp hmp (hI.grow hN) (hT.grow hN) (hP.grow hN)
  rcases clashOf_or len g gap len' f np P with hz | hz
  · have hA : diagOf len g gap len' f np P = diagT f P len' := by unfold diagOf; rw [if_pos hz]
    obtain ⟨hF, hS⟩ := clashOf_ok hz
    have hF0 := faultOf_snd hF
    have hR := rightL_of hF0
    have hQ := rightP_of hS
    obtain rfl : np = len' := hQ.np
    have hAr : ∀ k : Nat, k < np → arrivesOf len g gap np f np P (k : Int) = endP f P k := fun k hk => by
      unfold arrivesOf
      rw [if_pos ⟨hF, hS, decide_eq_true ⟨by omega, by omega⟩⟩, Int.toNat_natCast]
      rfl
    have hSm : ∀ i, i < np → SmallS (f i) (P i) := fun i hi => smallS_of hF0 hS hi
    rw [hA]
    rw [hz] at hCh
    dsimp only at hCh
    clear hA hz hF hF0 hS
    have htr := hR.tr
    go_enter Tryz.func24, Tryz.ntmps24
    go_wp2_with (go_at_call 50; refine hCh.mono ?_; rintro _ w2 ⟨rfl, hB2⟩; have hB := Below.join hN (Nat.le_refl _) hB2; have x0 := cellLater hB2 y0; have x1 := cellLater hB2 y1; have x2 := cellLater hB2 y2; have x3 := cellLater hB2 u0; have lw := ltCell x2)
    have hA1 := b1 w2 (.cells #[.int .i64 0, .int .i64 0, .int .i64 0, .int .i64 0] 86)
    refine nameW fun W hW => ?_
    rw [← hW] at hA1
    clear hW
    replace hB := Below.join hB (Nat.le_refl _) hA1
    replace x0 := cellLater hA1 x0
    replace x1 := cellLater hA1 x1
    replace x2 := cellLater hA1 x2
    replace x3 := cellLater hA1 x3
    clear hA1 hB2 lw hCh
    go_loopw [6, 20] (fun tt kk wr => ∃ (k : Nat), k ≤ np ∧ kk = .int .i64 k ∧ tt = .string (ba (diagT f P k)) ∧ Below W.heap.size W wr) (fun _ kk _ => np - (intOf kk).toNat)
    case atStart => exact ⟨0, Nat.zero_le _, rfl, rfl, Below.refl _ _⟩
    case round =>
      obtain ⟨k, hk, rfl, rfl, hBw⟩ := hrel
      obtain ⟨so, hso⟩ : ∃ so, so = ba (diagT f P k) := ⟨_, rfl⟩
      rw [← hso]
      have hso' : Hid _ := hso
      clear hso
      have hlk := diagT_len hSm k hk
      by_cases hlt : k < np
      · have hRk := hR.train k hlt
        have hSk := hSm k hlt
        have hnl := hSk.nl
        have hpos := hSk.pos
        have hk' : (k : Int) < (np : Int) := by omega
        have hk0 : (0 : Int) ≤ (k : Int) := by omega
        have hBk := Below.join hB (Nat.le_refl _) hBw
        obtain ⟨b, off, la, lc, rfl, _, hb', t0, t1, t2, t3, t4, hlg, _⟩ := hT k hlt
        obtain ⟨bp, op, lp, lpc, rfl, _, hbp, p0, hin, _⟩ := hP k hlt
        rw [hQ.row k hlt] at p0 hin
        replace t0 := cellLater hBk t0
        replace t1 := cellLater hBk t1
        replace t2 := cellLater hBk t2
        replace t3 := cellLater hBk t3
        replace t4 := cellLater hBk t4
        have hA0 := b1 wr (.cells #[.int .i64 (f k).frm, .int .i64 (f k).ready, .int .i64 (f k).due, .int .i64 (f k).weight, .slice la (f k).nl lc] 90)
        have hTb := Go.heap_alloc_new wr (.cells #[.int .i64 (f k).frm, .int .i64 (f k).ready, .int .i64 (f k).due, .int .i64 (f k).weight, .slice la (f k).nl lc] 90)
        have hll : (letterT k).length = 1 := rfl
        obtain ⟨sl, hsl⟩ : ∃ sl, sl = ba (letterT k) := ⟨_, rfl⟩
        obtain ⟨r1, e1, f1⟩ := cat so sl _ _ hso'.out hsl (by omega)
        obtain ⟨B, hBe⟩ : ∃ B, B = diagT f P k ++ letterT k := ⟨_, rfl⟩
        have hr1 : Hid (r1 = ba B) := by unfold Hid; rw [f1.out, hBe]
        have hBl : B.length ≤ 222 * k + 1 := by rw [hBe, List.length_append]; omega
        have hd1 : Hid (diagT f P (k + 1) = standsT (f k) (P k) B ((f k).nl + 1) ++ lateT (f k) (fromOf (f k) (P k) (f k).nl) ++ [10]) := by unfold Hid; rw [hBe, diagT_row]
        have hw8 : IntKind.u8.wrap (65 + (k : Int)) = 65 + (k : Int) := by rw [IntKind.wrap_u8]; omega
        have hw64 : IntKind.i64.wrap (65 + (k : Int)) = 65 + (k : Int) := by rw [IntKind.wrap_i64]; omega
        have hconv : ∀ X : World, Sem.run Tryz.prog (convert 91 9 (.slice (some ⟨X.heap.size, 0, none⟩) 1 1)) (X.alloc (.cells #[.int .u8 (65 + (k : Int))] 5)) = .ok (.string sl) (X.alloc (.cells #[.int .u8 (65 + (k : Int))] 5)) := fun X => by
          have hc1 : ∀ i, i < 1 → (X.alloc (.cells #[.int .u8 (65 + (k : Int))] 5)).cell? ⟨X.heap.size, 0 + i, none⟩ = some (.int .u8 ([65 + (k : Int)].getD i 0)) := fun i hi => by
            obtain rfl : i = 0 := by omega
            simp
          have h := run_convert_bytes_arg (P := Tryz.prog) (X.alloc (.cells #[.int .u8 (65 + (k : Int))] 5)) 91 5 Tryz.underlying91 Tryz.underlying5 X.heap.size 0 1 1 [65 + (k : Int)] rfl hc1 9 Tryz.underlying9
          have hs : strOfNums [65 + (k : Int)] = ba (letterT k) := by
            unfold strOfNums ba letterT
            have : (65 + (k : Int)).toNat = 65 + k := by omega
            simp [this]
          rw [hs, ← hsl] at h
          exact h
        have hcv := hconv (wr.alloc (.cells #[.int .i64 (f k).frm, .int .i64 (f k).ready, .int .i64 (f k).due, .int .i64 (f k).weight, .slice la (f k).nl lc] 90))
        simp only [World.size_alloc] at hcv
        clear f1 hsl hconv
        have hBe' : Hid _ := hBe
        clear hBe hll
        go_wp2
        have hA1 := b2 wr (.cells #[.int .i64 (f k).frm, .int .i64 (f k).ready, .int .i64 (f k).due, .int .i64 (f k).weight, .slice la (f k).nl lc] 90) (.cells #[.int .u8 (65 + (k : Int))] 5)
        have hAl := b1 (wr.alloc (.cells #[.int .i64 (f k).frm, .int .i64 (f k).ready, .int .i64 (f k).due, .int .i64 (f k).weight, .slice la (f k).nl lc] 90)) (.cells #[.int .u8 (65 + (k : Int))] 5)
        have c0 := cell_of_row _ wr.heap.size 0 _ _ _ hTb
        have c1 := cell_of_row _ wr.heap.size 1 _ _ _ hTb
        have c2 := cell_of_row _ wr.heap.size 2 _ _ _ hTb
        have c3 := cell_of_row _ wr.heap.size 3 _ _ _ hTb
        have c4 := cell_of_row _ wr.heap.size 4 _ _ _ hTb
        simp only [List.getElem?_toArray, List.getElem?_cons_zero, List.getElem?_cons_succ] at c0 c1 c2 c3 c4
        replace c0 := cellLater hAl c0
        replace c1 := cellLater hAl c1
        replace c2 := cellLater hAl c2
        replace c3 := cellLater hAl c3
        replace c4 := cellLater hAl c4
        refine nameW fun V hV => ?_
        rw [← hV] at hA1 c0 c1 c2 c3 c4
        clear hV t0 t1 t2 t3 t4 hTb hAl hA0 hcv hw8 hw64 e1
        have hBV := Below.join hBw (Nat.le_refl _) hA1
        have q0 := cellLater hBV x0
        have q1 := cellLater hBV x1
        have q2 := cellLater hBV x2
        have q3 := cellLater hBV x3
        have hBVw := Below.join hB (Nat.le_refl _) hBV
        generalize wr.heap.size = bx at c0 c1 c2 c3 c4 ⊢
        clear hA1 hBk
        go_loopw [6, 35] (fun tt mm wr2 => ∃ (m : Nat), m ≤ (f k).nl ∧ mm = .int .i64 m ∧ tt = .string (ba (standsT (f k) (P k) B m)) ∧ Below V.heap.size V wr2) (fun _ mm _ => (f k).nl - (intOf mm).toNat)
        case atStart => exact ⟨0, Nat.zero_le _, rfl, by rw [hr1.out]; rfl, Below.refl _ _⟩
        case round =>
          clear hr1
          obtain ⟨m, hm, rfl, rfl, hBm⟩ := hrel
          obtain ⟨sm, hsm⟩ : ∃ sm, sm = ba (standsT (f k) (P k) B m) := ⟨_, rfl⟩
          rw [← hsm]
          have hsm' : Hid _ := hsm
          clear hsm
          have hlm := standsT_len (b := B) hSk m (by omega)
          have hBVm := Below.join hBVw (Nat.le_refl _) hBm
          replace c0 := cellLater hBm c0
          replace c1 := cellLater hBm c1
          replace c2 := cellLater hBm c2
          replace c3 := cellLater hBm c3
          replace c4 := cellLater hBm c4
          replace q0 := cellLater hBm q0
          replace q1 := cellLater hBm q1
          replace q2 := cellLater hBm q2
          replace q3 := cellLater hBm q3
          by_cases hmlt : m < (f k).nl
          · have hm' : (m : Int) < ((f k).nl : Int) := by omega
            have hm0 : (0 : Int) ≤ (m : Int) := by omega
            obtain ⟨n00, n01⟩ := hSk.st m (by omega)
            obtain ⟨s0, s1⟩ := hQ.at0 k hlt m hmlt
            have n10 : 0 ≤ (P k).s m := s0
            have n11 : (P k).s m ≤ 99999999 := by omega
            have hto : toOf (f k) (P k) m = (P k).s m := by unfold toOf; rw [if_pos hmlt]
            have hsn : Hid (standsT (f k) (P k) B (m + 1) = standsT (f k) (P k) B m ++ standT (cur (f k) m) ((P k).s m)) := by unfold Hid; rw [← hto]; rfl
            have hAt := l2at_any (f k) m la lc wr.drew (by omega) hnl (hlg.grow hBVm.drew)
            obtain ⟨bi, oi, rfl, _, hbi, i0⟩ := hin m hmlt
            replace i0 := cellLater hBVm i0
            have p1 := cellLater hBVm p0
            generalize cur (f k) m = cv at n00 n01 hsn hAt
            generalize (P k).s m = sv at n10 n11 hsn i0
            clear hto s0 s1
            have hi0 := itoa_len n00 n01
            have hi1 := itoa_len n10 n11
            obtain ⟨r1, e1, f1⟩ := cat ⟨#[32]⟩ (ba (Lib.itoa cv)) [32] _ rfl rfl (by simp; omega)
            obtain ⟨r2, e2, f2⟩ := cat r1 ⟨#[64]⟩ _ [64] f1.out rfl (by simp; omega)
            obtain ⟨r3, e3, f3⟩ := cat r2 (ba (Lib.itoa sv)) _ _ f2.out rfl (by simp; omega)
            obtain ⟨r4, e4, f4⟩ := cat sm r3 _ _ hsm'.out f3.out (by simp; omega)
            have hr4 : Hid (r4 = ba (standsT (f k) (P k) B m ++ standT cv sv)) := f4
            clear f1 f2 f3 f4 hi0 hi1
            have hVV : Below wr.heap.size wr wr.drew := (Below.refl _ _).drew
            go_wp2
            go_region_held3 (fun w' => w'.cell? ⟨bx, 0, none⟩ = some (.int .i64 (f k).frm) ∧ w'.cell? ⟨bx, 1, none⟩ = some (.int .i64 (f k).ready) ∧ w'.cell? ⟨bx, 2, none⟩ = some (.int .i64 (f k).due) ∧ w'.cell? ⟨bx, 3, none⟩ = some (.int .i64 (f k).weight) ∧ w'.cell? ⟨bx, 4, none⟩ = some (.slice la (f k).nl lc) ∧ w'.cell? ⟨w.heap.size + 1, 0, none⟩ = some (.slice (some ⟨bp, op, none⟩) np nc) ∧ w'.cell? ⟨bp, op + k, none⟩ = some (.slice (some ⟨bi, oi, none⟩) (f k).nl lpc) ∧ w'.cell? ⟨bi, oi + m, none⟩ = some (.int .i64 sv)) (first | go_keep | (go_split_ands; refine ⟨?_, ?_, ?_, ?_, ?_, ?_, ?_, ?_⟩ <;> exact cellLater hB6 (by assumption))) ((first | (go_at_call 52; refine hAt.mono ?_; rintro _ w6 ⟨rfl, hB6⟩; replace hVV := Below.join hVV (Nat.le_refl _) hB6) | (go_at_call 51; refine (l4decimal_any _ _ (by assumption) (by assumption)).mono ?_; rintro _ w6 ⟨rfl, hB6⟩; replace hVV := Below.join hVV (Nat.le_refl _) hB6)))
            go_wp2
            go_roundw
            case rel => exact ⟨m + 1, by omega, by go_num, by rw [hr4.out, hsn.out], Below.join hBm (Nat.le_refl _) hVV⟩
            case measure => simp [intOf]; omega
          · obtain rfl : m = (f k).nl := by omega
            have hCa := specArrives_any a len cap g gap (some ⟨b, off, none⟩) np cap' f (some ⟨bp, op, none⟩) np nc P (k : Int) wr hl hl' hml hp hmp (hI.grow hBVm) (hT.grow hBVm) (hP.grow hBVm)
            rw [hAr k hlt, ← fromOf_end f P hpos] at hCa
            obtain ⟨n00, n01⟩ := hSk.st (f k).nl (Nat.le_refl _)
            obtain ⟨n10, n11⟩ := hSk.to (f k).nl (Nat.le_refl _)
            rw [toOf_end] at n10 n11
            have hcl : cur (f k) (f k).nl = ((f k).leg ((f k).nl - 1)).to := by
              obtain ⟨e, he⟩ : ∃ e, (f k).nl = e + 1 := ⟨(f k).nl - 1, by omega⟩
              rw [he]; rfl
            obtain ⟨bl, ol, rfl, _, hbl, l0, _, _⟩ := hlg ((f k).nl - 1) (by omega)
            rw [← hcl] at l0
            replace l0 := cellLater hBVm l0
            have hn0 : (0 : Int) ≤ ((f k).nl : Int) - 1 := by omega
            have hn1 : ((f k).nl : Int) - 1 < ((f k).nl : Int) := by omega
            have hn2 : (((f k).nl : Int) - 1).toNat = (f k).nl - 1 := by omega
            have hn3 : IntKind.i64.wrap (((f k).nl : Int) - 1) = ((f k).nl : Int) - 1 := by rw [IntKind.wrap_i64]; omega
            have hst : Hid (standsT (f k) (P k) B ((f k).nl + 1) = standsT (f k) (P k) B (f k).nl ++ standT (cur (f k) (f k).nl) (fromOf (f k) (P k) (f k).nl)) := by unfold Hid; rw [← toOf_end]; rfl
            generalize cur (f k) (f k).nl = cv at n00 n01 l0 hst
            generalize fromOf (f k) (P k) (f k).nl = ev at n10 n11 hCa hst hd1
            clear hcl
            have hdu0 := hSk.d0
            have hdu1 := hSk.d1
            have hi0 := itoa_len n00 n01
            have hi1 := itoa_len n10 n11
            obtain ⟨r1, e1, f1⟩ := cat ⟨#[32]⟩ (ba (Lib.itoa cv)) [32] _ rfl rfl (by simp; omega)
            obtain ⟨r2, e2, f2⟩ := cat r1 ⟨#[64]⟩ _ [64] f1.out rfl (by simp; omega)
            obtain ⟨r3, e3, f3⟩ := cat r2 (ba (Lib.itoa ev)) _ _ f2.out rfl (by simp; omega)
            obtain ⟨r4, e4, f4⟩ := cat sm r3 _ _ hsm'.out f3.out (by simp; omega)
            have hr4 : Hid (r4 = ba (standsT (f k) (P k) B ((f k).nl + 1))) := by unfold Hid; rw [f4.out, hst.out]; rfl
            have hl4 := standsT_len (b := B) hSk ((f k).nl + 1) (Nat.le_refl _)
            clear f1 f2 f3 f4 hst
            by_cases hlate : (f k).due < ev
            · have hlt' : Hid (lateT (f k) ev = [32, 108, 97, 116, 101, 32] ++ Lib.itoa (ev - (f k).due)) := by unfold Hid lateT; rw [if_pos hlate]
              have n20 : 0 ≤ ev - (f k).due := by omega
              have n21 : ev - (f k).due ≤ 99999999 := by omega
              have hi2 := itoa_len n20 n21
              have hws : IntKind.i64.wrap (ev - (f k).due) = ev - (f k).due := by rw [IntKind.wrap_i64]; omega
              obtain ⟨r5, e5, f5⟩ := cat ⟨#[32, 108, 97, 116, 101, 32]⟩ (ba (Lib.itoa (ev - (f k).due))) [32, 108, 97, 116, 101, 32] _ rfl rfl (by simp; omega)
              obtain ⟨r6, e6, f6⟩ := cat r4 r5 _ _ hr4.out f5.out (by simp; omega)
              obtain ⟨r7, e7, f7⟩ := cat r6 ⟨#[10]⟩ _ [10] f6.out rfl (by simp; omega)
              have hr7 : Hid (r7 = ba (diagT f P (k + 1))) := by unfold Hid; rw [f7.out, hd1.out, hlt'.out]
              clear f5 f6 f7 hi0 hi1 hi2
              go_wp2_with (first | (go_at_call 53; refine hCa.mono ?_; rintro _ w6 ⟨rfl, hB6⟩; have hVV := hB6; replace c2 := cellLater hB6 c2; replace c4 := cellLater hB6 c4; replace l0 := cellLater hB6 l0) | (go_at_call 51; refine (l4decimal_any _ _ (by assumption) (by assumption)).mono ?_; rintro _ w6 ⟨rfl, hB6⟩; replace hVV := Below.join hVV (Nat.le_refl _) hB6; replace c2 := cellLater hB6 c2; replace c4 := cellLater hB6 c4; replace l0 := cellLater hB6 l0))
              go_roundw
              case rel => exact ⟨k + 1, by omega, by go_num, by rw [hr7.out], Below.join (Below.join hBV (Nat.le_refl _) hBm) (Nat.le_refl _) hVV⟩
              case measure => simp [intOf]; omega
            · have hlt' : Hid (lateT (f k) ev = []) := by unfold Hid lateT; rw [if_neg hlate]
              obtain ⟨r7, e7, f7⟩ := cat r4 ⟨#[10]⟩ _ [10] hr4.out rfl (by simp; omega)
              have hr7 : Hid (r7 = ba (diagT f P (k + 1))) := by unfold Hid; rw [f7.out, hd1.out, hlt'.out, List.append_nil]
              clear f7 hi0 hi1
              go_wp2_with (first | (go_at_call 53; refine hCa.mono ?_; rintro _ w6 ⟨rfl, hB6⟩; have hVV := hB6; replace c2 := cellLater hB6 c2; replace c4 := cellLater hB6 c4; replace l0 := cellLater hB6 l0) | (go_at_call 51; refine (l4decimal_any _ _ (by assumption) (by assumption)).mono ?_; rintro _ w6 ⟨rfl, hB6⟩; replace hVV := Below.join hVV (Nat.le_refl _) hB6; replace c2 := cellLater hB6 c2; replace c4 := cellLater hB6 c4; replace l0 := cellLater hB6 l0))
              go_roundw
              case rel => exact ⟨k + 1, by omega, by go_num, by rw [hr7.out], Below.join (Below.join hBV (Nat.le_refl _) hBm) (Nat.le_refl _) hVV⟩
              case measure => simp [intOf]; omega
      · obtain rfl : k = np := by omega
        go_wp2
        go_ret
        exact ⟨by rw [← hso'.out]; rfl, Below.join hB (Nat.le_refl _) hBw⟩
  · have hA : diagOf len g gap len' f np P = [] := by unfold diagOf; rw [if_neg (fun h => hz (by rw [h]))]
    rw [hA]
    clear hA
    generalize clashOf len g gap len' f np P = vq at hz hCh
    obtain ⟨v0, v1, v2, v3⟩ := vq
    dsimp only at hz hCh
    have hz' : (v0 != 0) = true := by simpa using hz
    go_enter Tryz.func24, Tryz.ntmps24
    go_wp2_with (go_at_call 50; refine hCh.mono ?_; rintro _ w2 ⟨rfl, hB2⟩)
    go_ret
    exact ⟨rfl, Below.join (Below.join hN (Nat.le_refl _) hB2) (Nat.le_refl _) (b1 _ _)⟩
end Go.Proofs.YthnlkpifafklkaaGreatDoor
