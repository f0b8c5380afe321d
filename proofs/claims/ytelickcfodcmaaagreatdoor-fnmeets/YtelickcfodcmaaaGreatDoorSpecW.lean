/-
  The model's next leg, placed.
-/
import Derived.Test.YtelickcfodcmaaaGreatDoorSpecWb
namespace Go.Proofs.YtelickcfodcmaaaGreatDoor
open Go.RowKit

set_option maxRecDepth 20000 in
set_option maxHeartbeats 16000000 in
theorem next_main0 (B0 b gR : Nat) (a : Option Addr) (len cap : Nat) (g : Nat → Int) (gap : Int) (a' : Option Addr) (np cap' : Nat) (f : Nat → TrainD) (c : Option Addr) (nc : Nat) (v : Nat → Value) (P : Nat → RowD) (last : Int) (i : Nat) (w : World) (hR : RightL len np f) (hG : RightG len g gap np f) (hQ : PartP np f P last) (hi : i < np) (hk : (P i).n < (f i).nl) (hl5 : last ≤ 500000)
    (hL : LP B0 w b gR a len cap gap a' np cap' c nc v P last) (hI : IsInts 0 w.heap.size w a len g) (hT : IsTrains 0 w.heap.size w a' np f) :
    Calls Tryz.prog 91 #[.pointer (some ⟨b, 0, none⟩), .int .i64 i] w fun e w' => NextPost B0 b gR a len cap g gap a' np cap' f c nc P last i w e w' ∧ True := by
  have htr := hR.tr
  have lB0w : B0 ≤ w.heap.size := by have h1 := hL.lb; have h2 := ltCell hL.l2.c3; dsimp only at h2; omega
  have hRi := hR.train i hi
  have hnl := hRi.nl
  have hn10 : ∀ j, j < np → (P j).n ≤ 10 := fun j hj => Nat.le_trans (hQ.le j hj) (hR.train j hj).nl
  have hP := hL.rows hn10
  have hi' : (i : Int) < (np : Int) := by omega
  have hi0 : (0 : Int) ≤ (i : Int) := by omega
  have hki : ((P i).n : Int) < ((f i).nl : Int) := by omega
  have hkd : (((P i).n : Int) == ((f i).nl : Int)) = false := by simp; omega
  have x0 := hL.l2.c0
  have x1 := hL.l2.c1
  have x2 := hL.l2.c2
  have x3 := hL.l2.c3
  have x4 := hL.l2.c4
  obtain ⟨bt, ot, la, lc, rfl, _, hbt, t0, t1, t2, t3, t4, hlg, _⟩ := hT i hi
  obtain ⟨bp, op, lp, lpc, ec, _, hbp, p0, hin, _⟩ := hP i hi
  have hA1 := b1 w (.cells #[.int .i64 (f i).frm, .int .i64 (f i).ready, .int .i64 (f i).due, .int .i64 (f i).weight, .slice la (f i).nl lc] 72)
  have hTb := Go.heap_alloc_new w (.cells #[.int .i64 (f i).frm, .int .i64 (f i).ready, .int .i64 (f i).due, .int .i64 (f i).weight, .slice la (f i).nl lc] 72)
  go_enter Tryz.func91, Tryz.ntmps91
  subst ec
  have lb := ltCell x3
  dsimp only at lb
  go_wp2
  refine nameW fun V hV => ?_
  rw [← hV] at hA1 hTb
  have e0 := cell_of_row V w.heap.size 0 _ _ _ hTb
  have e1 := cell_of_row V w.heap.size 1 _ _ _ hTb
  have e2 := cell_of_row V w.heap.size 2 _ _ _ hTb
  have e3 := cell_of_row V w.heap.size 3 _ _ _ hTb
  have e4 := cell_of_row V w.heap.size 4 _ _ _ hTb
  simp at e0 e1 e2 e3 e4
  replace x0 := cellLater hA1 x0
  replace x1 := cellLater hA1 x1
  replace x2 := cellLater hA1 x2
  replace x3 := cellLater hA1 x3
  replace x4 := cellLater hA1 x4
  have hRd := l2readyP_any a len cap gap (some ⟨bt, ot, none⟩) np cap' f (some ⟨bp, op, none⟩) nc P last i V.drew hR hQ hi hk (hT.grow hA1.drew) (hP.grow hA1.drew)
  clear hV hTb t0 t1 t2 t3 t4 p0
  go_region_held3 (fun w' => w'.cell? ⟨b, 0, none⟩ = some (.slice a len cap) ∧ w'.cell? ⟨b, 1, none⟩ = some (.int .i64 gap) ∧ w'.cell? ⟨b, 2, none⟩ = some (.slice (some ⟨bt, ot, none⟩) np cap') ∧ w'.cell? ⟨b, 3, none⟩ = some (.slice (some ⟨bp, op, none⟩) np nc)) (first | go_keep | (go_split_ands; refine ⟨?_, ?_, ?_, ?_⟩ <;> exact cellLater hB3 (by assumption))) ((go_at_call 31; refine hRd.mono ?_; rintro _ w3 ⟨rfl, hB3⟩))
  have hBa := Below.join (Below.refl V.heap.size V).drew (Nat.le_refl _) hB3
  replace e0 := cellLater hBa e0
  replace e1 := cellLater hBa e1
  replace e2 := cellLater hBa e2
  replace e3 := cellLater hBa e3
  replace e4 := cellLater hBa e4
  replace x4 := cellLater hBa x4
  have hBw := Below.join hA1 (Nat.le_refl _) hBa
  have hTk := l2track_any (f i) (P i).n la lc w3 hk hnl (hlg.grow hBw)
  have hmz : ∀ x, maxZ x last = if x < last then last else x := fun x => rfl
  obtain ⟨rd, hrd⟩ : ∃ rd, readyOf f P i (P i).n = rd := ⟨_, rfl⟩
  have hrd' : Hid _ := hrd
  rw [hrd]
  obtain ⟨lw, hlw⟩ : ∃ lw, maxZ rd last = lw := ⟨_, rfl⟩
  have hlw' : Hid _ := hlw
  clear hrd hlw hRd hB3 x0 x1 x2 x3 hmz
  have hl0 := hQ.l0
  have hgap0 := hG.g0
  have hgap1 := hG.g1
  have hbd : ∀ j, j < np → ∀ m, m < (P j).n → (P j).s m + ((f j).leg m).run + gap ≤ 700000 := fun j hj m hm => by
    have h1 := hQ.at0 j hj m hm
    obtain ⟨r0, r1, _⟩ := (hR.train j hj).leg m (by have := hQ.le j hj; omega)
    omega
  have hrdb : 0 ≤ rd ∧ rd ≤ last + 200000 := by
    rw [← hrd'.out]
    have hr0 := hRi.r0
    have hr1 := hRi.r1
    cases hn : (P i).n with
    | zero => obtain ⟨_, _, l2, l3⟩ := hRi.leg 0 (by omega); simp only [readyOf]; omega
    | succ k =>
      have h1 := hQ.at0 i hi k (by omega)
      obtain ⟨r0, r1, _, _⟩ := hRi.leg k (by omega)
      obtain ⟨_, _, l2, l3⟩ := hRi.leg (k + 1) (by omega)
      simp only [readyOf]; omega
  have hlwb : 0 ≤ lw ∧ lw ≤ 700000 := by rw [← hlw'.out]; unfold maxZ; split <;> omega
  have hta := fun j hj => trackAll_bd (f := f) (P := P) (gap := gap) (i := i) (k := (P i).n) hlwb.2 hbd j hj
  have htr' := fun j (hj : j < np) m hm => trackRow_bd (f := f) (P := P) (gap := gap) (i := i) (k := (P i).n) (j := j) (hta j (Nat.le_of_lt hj)).2 (hbd j hj) m hm
  go_upto_if 59 with fail
  go_cut [7] (fun v wc => v = .int .i64 lw ∧ wc = w3)
  case first =>
    by_cases hrl : rd < last
    · have hlv : Hid (lw = last) := by unfold Hid; rw [← hlw'.out]; exact if_pos hrl
      go_wp2_with fail
      go_meet
      case rel => exact ⟨by rw [hlv.out], rfl⟩
    · have hlv : Hid (lw = rd) := by unfold Hid; rw [← hlw'.out]; exact if_neg hrl
      go_wp2_with fail
      go_meet
      case rel => exact ⟨by rw [hlv.out], rfl⟩
  case rest =>
    obtain ⟨rfl, hwc⟩ := hcut
    subst hwc
    have hlv : Hid (lw = lw) := by unfold Hid; rfl
    go_wp2_with (go_at_call 32; refine hTk.mono ?_; rintro _ w4 ⟨rfl, hB4⟩; have x3' := cellLater hB4 (cellLater hBw hL.l2.c3))
    have hBx := Below.join hBw (Nat.le_refl _) hB4
    replace e4 := cellLater hB4 e4
    have hLx := hL.l2.later hBx
    have hlvz : Hid (lw = trackAll f P gap i (P i).n lw 0) := by unfold Hid; rfl
    clear hTk e0 e1 e2 e3 hB4 x3' x4 hBa
    go_loopw [7, 73] (fun cc jj wr => ∃ (j : Nat), j ≤ np ∧ jj = .int .i64 j ∧ cc = .int .i64 (trackAll f P gap i (P i).n lw j) ∧ Below w4.heap.size w4 wr) (fun _ jj _ => np - (intOf jj).toNat)
    case atStart => exact ⟨0, Nat.zero_le _, rfl, by rw [← hlvz.out], Below.refl _ _⟩
    case round =>
      obtain ⟨j, hj, rfl, rfl, hB5⟩ := hrel
      by_cases hjlt : j < np
      · have hj' : (j : Int) < (np : Int) := by omega
        have hj0 : (0 : Int) ≤ (j : Int) := by omega
        obtain ⟨bpj, opj, lpj, lpcj, ecj, _, _, pj, hinj, _⟩ := hP j hjlt
        simp only [Option.some.injEq, Addr.mk.injEq] at ecj
        obtain ⟨rfl, rfl, _⟩ := ecj
        obtain ⟨btj, otj, laj, lcj, etj, _, _, tj0, tj1, tj2, tj3, tj4, hlgj, _⟩ := hT j hjlt
        simp only [Option.some.injEq, Addr.mk.injEq] at etj
        obtain ⟨rfl, rfl, _⟩ := etj
        have pj1 := cellLater (Below.join hBx (Nat.le_refl _) hB5) pj
        have hnj := hQ.le j hjlt
        have hRj := hR.train j hjlt
        have hnlj := hRj.nl
        have htrj := htr' j hjlt
        have hbdj := hbd j hjlt
        go_wp2
        clear pj1
        go_loopw [7, 80] (fun cc mm wr2 => ∃ (m : Nat), m ≤ (P j).n ∧ mm = .int .i64 m ∧ cc = .int .i64 (trackRow f P gap i (P i).n j (trackAll f P gap i (P i).n lw j) m) ∧ Below w4.heap.size w4 wr2) (fun _ mm _ => (P j).n - (intOf mm).toNat)
        case atStart => exact ⟨0, Nat.zero_le _, rfl, rfl, hB5⟩
        case round =>
          obtain ⟨m, hm, rfl, rfl, hB6⟩ := hrel
          by_cases hmlt : m < (P j).n
          · have hm' : (m : Int) < ((P j).n : Int) := by omega
            have hm0 : (0 : Int) ≤ (m : Int) := by omega
            have hml : (m : Int) < ((f j).nl : Int) := by omega
            have hBm := Below.join hBx (Nat.le_refl _) hB6
            obtain ⟨bl, ol, rfl, _, _, g0, g1, g2⟩ := hlgj m (by omega)
            obtain ⟨bi, oi, rfl, _, _, q0⟩ := hinj m hmlt
            obtain ⟨s0, s1⟩ := hQ.at0 j hjlt m hmlt
            obtain ⟨r0, r1, r2, r3⟩ := hRj.leg m (by omega)
            have htm := htrj m hm
            have hfb := hbdj m hmlt
            replace g1 := cellLater hBm g1
            replace q0 := cellLater hBm q0
            have d0 := cellLater hBm tj0
            have d1 := cellLater hBm tj1
            have d2 := cellLater hBm tj2
            have d3 := cellLater hBm tj3
            have d4 := cellLater hBm tj4
            have c1 := cellLater hB6 hLx.c1
            have c2 := cellLater hB6 hLx.c2
            have hw1 : IntKind.i64.wrap ((P j).s m + ((f j).leg m).run) = (P j).s m + ((f j).leg m).run := by rw [IntKind.wrap_i64]; omega
            have hw2 : IntKind.i64.wrap ((P j).s m + ((f j).leg m).run + gap) = (P j).s m + ((f j).leg m).run + gap := by rw [IntKind.wrap_i64]; omega
            have hstep : trackRow f P gap i (P i).n j (trackAll f P gap i (P i).n lw j) (m + 1) = if j ≠ i ∧ trackOf (f j) m = trackOf (f i) (P i).n ∧ trackRow f P gap i (P i).n j (trackAll f P gap i (P i).n lw j) m < (P j).s m + ((f j).leg m).run + gap then (P j).s m + ((f j).leg m).run + gap else trackRow f P gap i (P i).n j (trackAll f P gap i (P i).n lw j) m := rfl
            have hst : Hid _ := hstep
            clear hstep
            generalize trackRow f P gap i (P i).n j (trackAll f P gap i (P i).n lw j) m = N at hst htm ⊢
            have hTj := fun V (hV : Below wr.heap.size wr V) => l2track_any (f j) m (some ⟨bl, ol, none⟩) lcj V (by omega) hnlj (hlgj.grow (Below.join hBm (Nat.le_refl _) hV))
            have hTj' : Hid _ := hTj
            have hDr : ∀ n, Below wr.heap.size wr (wr.drewN n) := fun n => below_drewN (Below.refl _ _) n
            clear hTj
            by_cases hji : j = i
            · have hne : ((j : Int) != (i : Int)) = false := by simp; omega
              have ev : Hid (trackRow f P gap i (P i).n j (trackAll f P gap i (P i).n lw j) (m + 1) = N) := by unfold Hid; rw [hst.out, if_neg (fun h => h.1 hji)]
              have hji' : Hid _ := hji
              clear hji
              go_wp2
              go_quiet (fail)
              go_wp2
              go_roundw
              case rel => first | exact ⟨m + 1, by omega, by go_num, by rw [ev.out], Below.join hB6 (Nat.le_refl _) (hDr _)⟩ | ((repeat apply Exists.intro); exact ⟨⟨m + 1, by omega, by go_num, by rw [ev.out], Below.join hB6 (Nat.le_refl _) (hDr _)⟩, rfl⟩)
              case measure => simp [intOf]; omega
            · have hne : ((j : Int) != (i : Int)) = true := by simp; omega
              by_cases htk : trackOf (f j) m = trackOf (f i) (P i).n
              · have hteq : (trackOf (f j) m == trackOf (f i) (P i).n) = true := by simpa using htk
                by_cases hfr : N < (P j).s m + ((f j).leg m).run + gap
                · have ev : Hid (trackRow f P gap i (P i).n j (trackAll f P gap i (P i).n lw j) (m + 1) = (P j).s m + ((f j).leg m).run + gap) := by unfold Hid; rw [hst.out, if_pos ⟨hji, htk, hfr⟩]
                  have htk' : Hid _ := htk
                  clear htk
                  go_wp2
                  go_quiet (fail)
                  go_wp2_with (go_at_call 32; refine (hTj'.out _ (hDr _)).mono ?_; rintro _ w7 ⟨rfl, hB7⟩)
                  go_roundw
                  case rel => first | exact ⟨m + 1, by omega, by go_num, by rw [ev.out], Below.join (Below.join hB6 (Nat.le_refl _) (hDr _)) (Nat.le_refl _) hB7⟩ | ((repeat apply Exists.intro); exact ⟨⟨m + 1, by omega, by go_num, by rw [ev.out], Below.join (Below.join hB6 (Nat.le_refl _) (hDr _)) (Nat.le_refl _) hB7⟩, rfl⟩)
                  case measure => simp [intOf]; omega
                · have ev : Hid (trackRow f P gap i (P i).n j (trackAll f P gap i (P i).n lw j) (m + 1) = N) := by unfold Hid; rw [hst.out, if_neg (fun h => hfr h.2.2)]
                  have htk' : Hid _ := htk
                  clear htk
                  go_wp2
                  go_quiet (fail)
                  go_wp2_with (go_at_call 32; refine (hTj'.out _ (hDr _)).mono ?_; rintro _ w7 ⟨rfl, hB7⟩)
                  go_roundw
                  case rel => first | exact ⟨m + 1, by omega, by go_num, by rw [ev.out], Below.join (Below.join hB6 (Nat.le_refl _) (hDr _)) (Nat.le_refl _) hB7⟩ | ((repeat apply Exists.intro); exact ⟨⟨m + 1, by omega, by go_num, by rw [ev.out], Below.join (Below.join hB6 (Nat.le_refl _) (hDr _)) (Nat.le_refl _) hB7⟩, rfl⟩)
                  case measure => simp [intOf]; omega
              · have hteq : (trackOf (f j) m == trackOf (f i) (P i).n) = false := by simpa using htk
                have ev : Hid (trackRow f P gap i (P i).n j (trackAll f P gap i (P i).n lw j) (m + 1) = N) := by unfold Hid; rw [hst.out, if_neg (fun h => htk h.2.1)]
                go_wp2
                go_quiet (fail)
                go_wp2_with (go_at_call 32; refine (hTj'.out _ (hDr _)).mono ?_; rintro _ w7 ⟨rfl, hB7⟩)
                go_roundw
                case rel => first | exact ⟨m + 1, by omega, by go_num, by rw [ev.out], Below.join (Below.join hB6 (Nat.le_refl _) (hDr _)) (Nat.le_refl _) hB7⟩ | ((repeat apply Exists.intro); exact ⟨⟨m + 1, by omega, by go_num, by rw [ev.out], Below.join (Below.join hB6 (Nat.le_refl _) (hDr _)) (Nat.le_refl _) hB7⟩, rfl⟩)
                case measure => simp [intOf]; omega
          · obtain rfl : m = (P j).n := by omega
            go_wp2
            go_roundw
            case rel => first | exact ⟨j + 1, by omega, by go_num, by simp only [trackAll], hB6⟩ | ((repeat apply Exists.intro); exact ⟨⟨j + 1, by omega, by go_num, by simp only [trackAll], hB6⟩, rfl⟩)
            case measure => simp [intOf]; omega
      · obtain rfl : j = np := by omega
        have hBe := Below.join hBx (Nat.le_refl _) hB5
        obtain ⟨bk, ok, rfl, _, _, gk, _, _⟩ := hlg (P i).n hk
        replace gk := cellLater hBe gk
        have e4' := cellLater hB5 e4
        obtain ⟨to0, to1⟩ := hR.to i hi (P i).n hk
        obtain ⟨q, hq⟩ : ∃ q : Nat, ((f i).leg (P i).n).to = (q : Int) := ⟨((f i).leg (P i).n).to.toNat, by omega⟩
        have hqs : Hid (stOf f P i = (q : Int)) := hq
        have hlow : Hid (lowOf j f P gap last i = trackAll f P gap i (P i).n lw j) := by unfold Hid lowOf; rw [hrd'.out, hlw'.out]
        have hlob := hta j (Nat.le_refl _)
        generalize trackAll f P gap i (P i).n lw j = low at hlow hlob ⊢
        rw [hq] at gk to1
        clear hq to0
        have hql : q < len := by omega
        have hq' : (q : Int) < (len : Int) := by omega
        have hq0 : (0 : Int) ≤ (q : Int) := by omega
        obtain ⟨ba, oa, rfl, _, _, gq⟩ := hI q hql
        have hgq := hG.room q hql
        go_wp2
        rename_i Kz az
        exact next_l B0 b gR ba oa bt ot bp op len cap g gap j cap' f nc v P last i q low w wr Kz (fun x W h => az x W h) hR hG hQ hi hn10 hL hT hP (Below.join hBx (Nat.le_refl _) hB5) hql gq hqs hlow (by omega) (by omega)

theorem next_main (B0 b gR : Nat) (a : Option Addr) (len cap : Nat) (g : Nat → Int) (gap : Int) (a' : Option Addr) (np cap' : Nat) (f : Nat → TrainD) (c : Option Addr) (nc : Nat) (v : Nat → Value) (P : Nat → RowD) (last : Int) (i : Nat) (w : World) (hR : RightL len np f) (hG : RightG len g gap np f) (hQ : PartP np f P last) (hi : i < np) (hk : (P i).n < (f i).nl) (hl5 : last ≤ 500000)
    (hL : LP B0 w b gR a len cap gap a' np cap' c nc v P last) (hI : IsInts 0 w.heap.size w a len g) (hT : IsTrains 0 w.heap.size w a' np f) :
    Calls Tryz.prog 91 #[.pointer (some ⟨b, 0, none⟩), .int .i64 i] w fun e w' =>
      ((∀ t, lowOf np f P gap last i ≤ t → fullAt np g f P (stOf f P i) t) ∧ e = .returned (.int .i64 3) ∧ Below w.heap.size w w') ∨
      (∃ t v', IsFirst np g f P (stOf f P i) (lowOf np f P gap last i) t ∧ e = .returned (.int .i64 0) ∧ Below B0 w w' ∧ LP B0 w' b gR a len cap gap a' np cap' c nc v' (moreP P i t) t) :=
  (next_main0 B0 b gR a len cap g gap a' np cap' f c nc v P last i w hR hG hQ hi hk hl5 hL hI hT).mono (fun _ _ h => h.1)
end Go.Proofs.YtelickcfodcmaaaGreatDoor
