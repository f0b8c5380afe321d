/-
  The program's board: a train's next leg is placed.
  The program's board, new: what it is.
  The program's Place: what it answers.
  The program's Place at a line that is right: what it answers.
  From the reading of an argument to its cells: a laws.Line by value.
  From the reading of an argument to its cells: bytes.
-/
import Derived.Test.YtelickcfodcmaaaGreatDoorGJ
import Derived.Test.YtelickcfodcmaaaGreatDoorGD
import Derived.Test.YtelickcfodcmaaaGreatDoorIsRight
import Derived.Test.YtelickcfodcmaaaGreatDoorBase
import Derived.Lib.SmallJoins
import Derived.Deep.Slices
import Derived.Test.YtelickcfodcmaaaGreatDoorGA
namespace Go.Proofs.YtelickcfodcmaaaGreatDoor
open Go.RowKit

set_option maxRecDepth 20000 in
set_option maxHeartbeats 4000000 in
theorem place_no (b : Nat) (a : Option Addr) (len cap : Nat) (gap : Int) (a' : Option Addr) (np cap' : Nat) (f : Nat → TrainD) (c : Option Addr) (nc : Nat) (P : Nat → RowD) (last : Int) (i : Int) (w : World) (hR : RightL len np f)
    (hL : L2 w b a len cap gap a' np cap' c nc last) (hT : IsTrains 0 w.heap.size w a' np f) (hP : IsRows 0 w.heap.size w c np P) (hm : moreB np f P i = false) :
    Calls Tryz.prog 42 #[.pointer (some ⟨b, 0, none⟩), .int .i64 i] w fun e w' => e = .returned (.int .i64 2) ∧ Below w.heap.size w w' := by
  have hHN := hasNext_any b a len cap gap a' np cap' f c nc P last i w hR hL hT hP
  rw [hm] at hHN
  go_enter Tryz.func42, Tryz.ntmps42
  go_wp2_with (go_at_call 69; refine hHN.mono ?_; rintro _ w1 ⟨rfl, q1, hw1⟩; have hB1 : Below w.heap.size w w1 := (by rw [hw1]; exact below_drewN (Below.refl _ _) _); clear hw1)
  go_ret
  exact ⟨rfl, hB1⟩

set_option maxRecDepth 20000 in
set_option maxHeartbeats 16000000 in
theorem place_main (B0 b gR bT bS : Nat) (a : Option Addr) (len cap : Nat) (g : Nat → Int) (gap : Int) (a' : Option Addr) (np cap' nc : Nat) (f : Nat → TrainD) (v : Nat → Value) (P : Nat → RowD) (last : Int) (n : Nat) (T : Int → TrackD) (R : Int → RoomD) (k i : Nat) (w : World)
    (hR : RightL len np f) (hG : RightG len g gap np f) (hQ : PartP np f P last) (hi : i < np) (hk : (P i).n < (f i).nl) (hk10 : k < 10) (hl : last ≤ 110000 + 20001 * (k : Int)) (hn8 : n ≤ 800)
    (hB : Bd B0 w b gR bT bS a len cap gap a' np cap' nc v P last n T R) (hBI : BI np f P gap last T R k) (hI : IsInts 0 B0 w a len g) (hT : IsTrains 0 B0 w a' np f) :
    Calls Tryz.prog 42 #[.pointer (some ⟨b, 0, none⟩), .int .i64 i] w fun e w' =>
      ((∀ t, lowOf np f P gap last i ≤ t → fullAt np g f P (stOf f P i) t) ∧ e = .returned (.int .i64 3) ∧ Below B0 w w') ∨
      (∃ t v' T' R' n', IsFirst np g f P (stOf f P i) (lowOf np f P gap last i) t ∧ e = .returned (.int .i64 0) ∧ n' ≤ n + 5 ∧ Bd B0 w' b gR bT bS a len cap gap a' np cap' nc v' (moreP P i t) t n' T' R' ∧ BI np f (moreP P i t) gap t T' R' (k + 1) ∧ Below B0 w w') := by
  have htr := hR.tr
  have hRi := hR.train i hi
  have hnl := hRi.nl
  have hi' : (i : Int) < (np : Int) := by omega
  have hi0 : (0 : Int) ≤ (i : Int) := by omega
  have hn10 : ∀ j, j < np → (P j).n ≤ 10 := fun j hj => Nat.le_trans (hQ.le j hj) (hR.train j hj).nl
  have hbase := hB.base
  have hT0 : IsTrains 0 w.heap.size w a' np f := hT.mono (Nat.le_refl 0) hbase
  have hP := hB.lp.rows hn10
  have hHN := hasNext_any b a len cap gap a' np cap' f (some ⟨gR, 0, none⟩) nc P last (i : Int) w hR hB.lp.l2 hT0 hP
  have hmt : moreB np f P (i : Int) = true := by
    unfold moreB
    have e1 : inB (i : Int) 0 ((np : Int) - 1) = true := decide_eq_true ⟨by omega, by omega⟩
    rw [e1, Int.toNat_natCast]
    exact decide_eq_true hk
  rw [hmt] at hHN
  clear hmt
  obtain ⟨bt, ot, la, lc, rfl, _, hbt, t0, t1, t2, t3, t4, hlg, _⟩ := hT i hi
  obtain ⟨lp, lpc, hvf⟩ := hB.lp.form hi
  have x2 := hB.lp.l2.c2
  have x3 := hB.lp.l2.c3
  have r0 := (hB.lp.row i hi).2.1
  rw [hvf] at r0
  have hin : IsInts 0 w.heap.size w lp (P i).n (P i).s := by
    obtain ⟨bp, op, sp, spc, ec, _, _, p0, hin, _⟩ := hP i hi
    simp only [Option.some.injEq, Addr.mk.injEq] at ec
    obtain ⟨rfl, rfl, _⟩ := ec
    rw [Nat.zero_add] at p0
    have esp := r0.symm.trans p0
    simp only [Option.some.injEq, Value.slice.injEq] at esp
    obtain ⟨rfl, _, _⟩ := esp
    exact hin
  go_enter Tryz.func42, Tryz.ntmps42
  go_wp2_with (go_at_call 69; refine hHN.mono ?_; rintro _ w1 ⟨rfl, q1, hw1⟩; have hB1 : Below w.heap.size w w1 := (by rw [hw1]; exact below_drewN (Below.refl _ _) _); clear hw1 hHN; replace x2 := cellLater hB1 x2; replace x3 := cellLater hB1 x3; replace r0 := cellLater hB1 r0; replace t0 := cellLater hB1 t0; replace t1 := cellLater hB1 t1; replace t2 := cellLater hB1 t2; replace t3 := cellLater hB1 t3; replace t4 := cellLater hB1 t4; have lb := ltCell x3; have lg := ltCell r0)
  have hA1 := b1 w1 (.cells #[.int .i64 (f i).frm, .int .i64 (f i).ready, .int .i64 (f i).due, .int .i64 (f i).weight, .slice la (f i).nl lc] 72)
  have hTb := Go.heap_alloc_new w1 (.cells #[.int .i64 (f i).frm, .int .i64 (f i).ready, .int .i64 (f i).due, .int .i64 (f i).weight, .slice la (f i).nl lc] 72)
  refine nameW fun V hV => ?_
  rw [← hV] at hA1 hTb
  have e0 := cell_of_row V w1.heap.size 0 _ _ _ hTb
  have e1 := cell_of_row V w1.heap.size 1 _ _ _ hTb
  have e2 := cell_of_row V w1.heap.size 2 _ _ _ hTb
  have e3 := cell_of_row V w1.heap.size 3 _ _ _ hTb
  have e4 := cell_of_row V w1.heap.size 4 _ _ _ hTb
  simp at e0 e1 e2 e3 e4
  clear hV hTb t0 t1 t2 t3 t4 lb lg
  replace x3 := cellLater hA1 x3
  replace r0 := cellLater hA1 r0
  have hwV := Below.join hB1 (Nat.le_refl _) hA1
  have hBV := hB.later hwV
  have x4 := hBV.lp.l2.c4
  have hlgw : IsLegs 0 w.heap.size w la (f i).nl (f i).leg := hlg.mono (Nat.le_refl 0) hbase
  have hs6 : ∀ j, j < (P i).n → 0 ≤ (P i).s j ∧ (P i).s j ≤ 1000000 := fun j hj => by have := hQ.at0 i hi j hj; have := hQ.l1; omega
  have htkb := track_bd hR hG hi hk
  have hwf := wf_small (x := trackOf (f i) (P i).n) (by omega) (by omega)
  have hSo := soonest_any (f i) (P i).s (P i).n la lc lp lpc V.drew hk hRi hs6 (hlgw.grow hwV.drew) (hin.grow hwV.drew)
  rw [readyR_eq] at hSo
  have hTO : ∀ X, Below V.heap.size V X → Calls Tryz.prog 57 #[.agg #[.int .i64 (f i).frm, .int .i64 (f i).ready, .int .i64 (f i).due, .int .i64 (f i).weight, .slice la (f i).nl lc], .int .i64 (P i).n] X fun e w' => e = .returned (.int .i64 (trackOf (f i) (P i).n)) ∧ Below X.heap.size X w' := fun X hX => trackOf_any (f i) (P i).n la lc X hk hnl (hlgw.grow (Below.join hwV (Nat.le_refl _) hX))
  have hTF : ∀ X, Below V.heap.size V X → Calls Tryz.prog 70 #[.pointer (some ⟨b, 0, none⟩), .int .i64 i, .int .i64 (trackOf (f i) (P i).n)] X fun e w' => e = .returned (.int .i64 (trackFreeD T i (trackOf (f i) (P i).n))) ∧ Below X.heap.size X w' := fun X hX =>
    trackFree_any b bT n (fun x => trackV (T x)) i (trackOf (f i) (P i).n) ((T (trackOf (f i) (P i).n)).tr : Int) (T (trackOf (f i) (P i).n)).frm (T (trackOf (f i) (P i).n)).free X hwf (hBV.later hX).c5 (hBV.later hX).kT rfl
  have hlow := hBI.ti.low hQ (i := i) (k := (P i).n) (lw := maxZ (readyOf f P i (P i).n) last) (by unfold maxZ; split <;> omega)
  have hlowb := low_bd hR hG hQ hi hk
  have hrdb := ready_bd hR hQ hi hk
  have hrle : readyOf f P i (P i).n ≤ lowOf np f P gap last i := by
    have h1 := (trackAll_is (f := f) (P := P) (gap := gap) (i := i) (k := (P i).n) (a := maxZ (readyOf f P i (P i).n) last) np).1
    have h2 : readyOf f P i (P i).n ≤ maxZ (readyOf f P i (P i).n) last := by unfold maxZ; split <;> omega
    exact Int.le_trans h2 h1
  have hlow2 : lowOf np f P gap last i = maxZ (maxZ (readyOf f P i (P i).n) last) (trackFreeD T i (trackOf (f i) (P i).n)) := hlow
  generalize hrd : readyOf f P i (P i).n = rd at hSo hrdb hrle hlow2
  generalize htf : trackFreeD T i (trackOf (f i) (P i).n) = tf at hTF hlow2
  generalize hlo : lowOf np f P gap last i = low at hlow2 hlowb hrle ⊢
  have hrd' : Hid _ := hrd
  have hlo' : Hid _ := hlo
  have hlow' : Hid _ := hlow2
  clear hrd htf hlo hlow hlow2 hwf x2
  go_cut [7] (fun v wc => v = .int .i64 low ∧ Below V.heap.size V wc)
  case first =>
    have hDr : Below V.heap.size V V.drew := (Below.refl _ _).drew
    have hVV := hDr
    by_cases h1 : rd < last
    · have em : Hid (maxZ rd last = last) := by unfold Hid maxZ; rw [if_pos h1]
      by_cases h2 : last < tf
      · have ev : Hid (low = tf) := by unfold Hid; rw [hlow'.out, em.out]; unfold maxZ; rw [if_pos h2]
        go_region_held3 (fun w' => w'.cell? ⟨w1.heap.size, 0, none⟩ = some (.int .i64 (f i).frm) ∧ w'.cell? ⟨w1.heap.size, 1, none⟩ = some (.int .i64 (f i).ready) ∧ w'.cell? ⟨w1.heap.size, 2, none⟩ = some (.int .i64 (f i).due) ∧ w'.cell? ⟨w1.heap.size, 3, none⟩ = some (.int .i64 (f i).weight) ∧ w'.cell? ⟨w1.heap.size, 4, none⟩ = some (.slice la (f i).nl lc) ∧ w'.cell? ⟨b, 3, none⟩ = some (.slice (some ⟨gR, 0, none⟩) np nc) ∧ w'.cell? ⟨gR, i, none⟩ = some (.slice lp (P i).n lpc) ∧ w'.cell? ⟨b, 4, none⟩ = some (.int .i64 last)) (first | (go_split_ands; refine ⟨?_, ?_, ?_, ?_, ?_, ?_, ?_, ?_⟩ <;> exact cellLater hB5 (by assumption)) | (go_split_ands; refine ⟨?_, ?_, ?_, ?_, ?_, ?_, ?_, ?_⟩ <;> exact cellLater hDr (by assumption)) | go_keep) ((first | (go_at_call 59; refine hSo.mono ?_; rintro _ w5 ⟨rfl, hB5⟩; replace hVV := Below.join hVV (Nat.le_refl _) hB5) | (go_at_call 57; refine (hTO _ hVV).mono ?_; rintro _ w5 ⟨rfl, hB5⟩; replace hVV := Below.join hVV (Nat.le_refl _) hB5) | (go_at_call 70; refine (hTF _ hVV).mono ?_; rintro _ w5 ⟨rfl, hB5⟩; replace hVV := Below.join hVV (Nat.le_refl _) hB5)))
        all_goals
          go_wp2_with fail
          go_meet
          case rel => exact ⟨by rw [ev.out], hVV⟩
      · have ev : Hid (low = last) := by unfold Hid; rw [hlow'.out, em.out]; unfold maxZ; rw [if_neg h2]
        go_region_held3 (fun w' => w'.cell? ⟨w1.heap.size, 0, none⟩ = some (.int .i64 (f i).frm) ∧ w'.cell? ⟨w1.heap.size, 1, none⟩ = some (.int .i64 (f i).ready) ∧ w'.cell? ⟨w1.heap.size, 2, none⟩ = some (.int .i64 (f i).due) ∧ w'.cell? ⟨w1.heap.size, 3, none⟩ = some (.int .i64 (f i).weight) ∧ w'.cell? ⟨w1.heap.size, 4, none⟩ = some (.slice la (f i).nl lc) ∧ w'.cell? ⟨b, 3, none⟩ = some (.slice (some ⟨gR, 0, none⟩) np nc) ∧ w'.cell? ⟨gR, i, none⟩ = some (.slice lp (P i).n lpc) ∧ w'.cell? ⟨b, 4, none⟩ = some (.int .i64 last)) (first | (go_split_ands; refine ⟨?_, ?_, ?_, ?_, ?_, ?_, ?_, ?_⟩ <;> exact cellLater hB5 (by assumption)) | (go_split_ands; refine ⟨?_, ?_, ?_, ?_, ?_, ?_, ?_, ?_⟩ <;> exact cellLater hDr (by assumption)) | go_keep) ((first | (go_at_call 59; refine hSo.mono ?_; rintro _ w5 ⟨rfl, hB5⟩; replace hVV := Below.join hVV (Nat.le_refl _) hB5) | (go_at_call 57; refine (hTO _ hVV).mono ?_; rintro _ w5 ⟨rfl, hB5⟩; replace hVV := Below.join hVV (Nat.le_refl _) hB5) | (go_at_call 70; refine (hTF _ hVV).mono ?_; rintro _ w5 ⟨rfl, hB5⟩; replace hVV := Below.join hVV (Nat.le_refl _) hB5)))
        all_goals
          go_wp2_with fail
          go_meet
          case rel => exact ⟨by rw [ev.out], hVV⟩
    · have em : Hid (maxZ rd last = rd) := by unfold Hid maxZ; rw [if_neg h1]
      by_cases h2 : rd < tf
      · have ev : Hid (low = tf) := by unfold Hid; rw [hlow'.out, em.out]; unfold maxZ; rw [if_pos h2]
        go_region_held3 (fun w' => w'.cell? ⟨w1.heap.size, 0, none⟩ = some (.int .i64 (f i).frm) ∧ w'.cell? ⟨w1.heap.size, 1, none⟩ = some (.int .i64 (f i).ready) ∧ w'.cell? ⟨w1.heap.size, 2, none⟩ = some (.int .i64 (f i).due) ∧ w'.cell? ⟨w1.heap.size, 3, none⟩ = some (.int .i64 (f i).weight) ∧ w'.cell? ⟨w1.heap.size, 4, none⟩ = some (.slice la (f i).nl lc) ∧ w'.cell? ⟨b, 3, none⟩ = some (.slice (some ⟨gR, 0, none⟩) np nc) ∧ w'.cell? ⟨gR, i, none⟩ = some (.slice lp (P i).n lpc) ∧ w'.cell? ⟨b, 4, none⟩ = some (.int .i64 last)) (first | (go_split_ands; refine ⟨?_, ?_, ?_, ?_, ?_, ?_, ?_, ?_⟩ <;> exact cellLater hB5 (by assumption)) | (go_split_ands; refine ⟨?_, ?_, ?_, ?_, ?_, ?_, ?_, ?_⟩ <;> exact cellLater hDr (by assumption)) | go_keep) ((first | (go_at_call 59; refine hSo.mono ?_; rintro _ w5 ⟨rfl, hB5⟩; replace hVV := Below.join hVV (Nat.le_refl _) hB5) | (go_at_call 57; refine (hTO _ hVV).mono ?_; rintro _ w5 ⟨rfl, hB5⟩; replace hVV := Below.join hVV (Nat.le_refl _) hB5) | (go_at_call 70; refine (hTF _ hVV).mono ?_; rintro _ w5 ⟨rfl, hB5⟩; replace hVV := Below.join hVV (Nat.le_refl _) hB5)))
        all_goals
          go_wp2_with fail
          go_meet
          case rel => exact ⟨by rw [ev.out], hVV⟩
      · have ev : Hid (low = rd) := by unfold Hid; rw [hlow'.out, em.out]; unfold maxZ; rw [if_neg h2]
        go_region_held3 (fun w' => w'.cell? ⟨w1.heap.size, 0, none⟩ = some (.int .i64 (f i).frm) ∧ w'.cell? ⟨w1.heap.size, 1, none⟩ = some (.int .i64 (f i).ready) ∧ w'.cell? ⟨w1.heap.size, 2, none⟩ = some (.int .i64 (f i).due) ∧ w'.cell? ⟨w1.heap.size, 3, none⟩ = some (.int .i64 (f i).weight) ∧ w'.cell? ⟨w1.heap.size, 4, none⟩ = some (.slice la (f i).nl lc) ∧ w'.cell? ⟨b, 3, none⟩ = some (.slice (some ⟨gR, 0, none⟩) np nc) ∧ w'.cell? ⟨gR, i, none⟩ = some (.slice lp (P i).n lpc) ∧ w'.cell? ⟨b, 4, none⟩ = some (.int .i64 last)) (first | (go_split_ands; refine ⟨?_, ?_, ?_, ?_, ?_, ?_, ?_, ?_⟩ <;> exact cellLater hB5 (by assumption)) | (go_split_ands; refine ⟨?_, ?_, ?_, ?_, ?_, ?_, ?_, ?_⟩ <;> exact cellLater hDr (by assumption)) | go_keep) ((first | (go_at_call 59; refine hSo.mono ?_; rintro _ w5 ⟨rfl, hB5⟩; replace hVV := Below.join hVV (Nat.le_refl _) hB5) | (go_at_call 57; refine (hTO _ hVV).mono ?_; rintro _ w5 ⟨rfl, hB5⟩; replace hVV := Below.join hVV (Nat.le_refl _) hB5) | (go_at_call 70; refine (hTF _ hVV).mono ?_; rintro _ w5 ⟨rfl, hB5⟩; replace hVV := Below.join hVV (Nat.le_refl _) hB5)))
        all_goals
          go_wp2_with fail
          go_meet
          case rel => exact ⟨by rw [ev.out], hVV⟩
  case rest =>
    obtain ⟨rfl, hVw⟩ := hcut
    clear hSo hTO hTF
    have hBc := hBV.later hVw
    have d4 := cellLater hVw e4
    have hwc := Below.join hwV (Nat.le_refl _) hVw
    have hbc : Below B0 w wc := hwc.mono hbase
    obtain ⟨bl, ol, rfl, _, hbl, g0, _, _⟩ := hlg (P i).n hk
    obtain ⟨to0, to1⟩ := hR.to i hi (P i).n hk
    obtain ⟨q, hq⟩ : ∃ q : Nat, ((f i).leg (P i).n).to = (q : Int) := ⟨((f i).leg (P i).n).to.toNat, by omega⟩
    have hqs : Hid (stOf f P i = (q : Int)) := hq
    rw [hq] at g0 to1
    have hq' : Hid _ := hq
    clear hq to0
    replace g0 := cellBelow hbc hbl g0
    have hst := hR.st
    have hk0 : (0 : Int) ≤ ((P i).n : Int) := by omega
    have hk' : ((P i).n : Int) < ((f i).nl : Int) := by omega
    have hl6 := hQ.l1
    have hEb := hBI.E hR hQ hl6
    have hneb : ∀ x, (R x).ne ≤ 20 := fun x => by have := hBI.ne x; omega
    have hqE : Hid (0 ≤ (R (q : Int)).E ∧ (R (q : Int)).E ≤ 100) := by unfold Hid; have := hEb (q : Int); omega
    have hqN : Hid ((R (q : Int)).ne ≤ 100) := by unfold Hid; have := hneb (q : Int); omega
    have hIc : IsInts 0 B0 wc a len g := hI.below hbc (Nat.le_refl _)
    have hTc : IsTrains 0 B0 wc (some ⟨bt, ot, none⟩) np f := hT.below hbc (Nat.le_refl _)
    have hSt := stationFreeBd hBc g q low (by omega) (by omega) (by omega) hIc hqE.out hqN.out (fun x hx => hBI.el _ x hx)
    clear x3 r0 x4 e0 e1 e2 e3 e4 hBV hA1
    go_wp2_with (go_at_call 71; refine hSt.mono ?_; rintro _ w5 (⟨rfl, hg5, hb5⟩ | ⟨t, r, rfl, hSF, hlt, hrE, hrn, hBd5, hbl5, hst5⟩))
    · have hall : Hid (∀ t, low ≤ t → fullAt np g f P (stOf f P i) t) := by
        unfold Hid
        rw [hqs.out]
        exact hBI.si.never hlowb.1 (by rw [Int.toNat_natCast]; exact hg5)
      go_wp2
      go_ret
      exact Or.inl ⟨by rw [hlo'.out]; exact hall.out, rfl, hbc.trans hb5⟩
    · have hfirst : IsFirst np g f P (stOf f P i) low t := by
        rw [hqs.out]
        exact hBI.si.first hlowb.1 (by rw [Int.toNat_natCast]; exact hSF) (by rw [Int.toNat_natCast]; exact hlt)
      have hmore := hQ.more hR hG hi hk (by rw [hlo'.out]; exact hfirst) hk10 hl
      have ht0 := hmore.1.l0
      have ht6 := hmore.1.l1
      have hrd2 : readyOf f P i (P i).n ≤ low := by rw [hrd'.out]; exact hrle
      have hE1 : ∀ x, ((fun y => if y = (q : Int) then r else R y) x).E = (R x).E := fun x => by
        by_cases e : x = (q : Int)
        · subst e; simp only [if_pos]; exact hrE
        · simp only [if_neg e]
      have hN1 : ∀ x, ((fun y => if y = (q : Int) then r else R y) x).ne ≤ 20 := fun x => by
        by_cases e : x = (q : Int)
        · subst e; simp only [if_pos]; exact Nat.le_trans hrn (hneb _)
        · simp only [if_neg e]; exact hneb x
      have hTd : IsTrains 0 B0 w5 (some ⟨bt, ot, none⟩) np f := hTc.below hbl5 (Nat.le_refl _)
      have hbeg := begin_any B0 b gR bT bS a len cap g gap (some ⟨bt, ot, none⟩) np cap' nc f v P last (n + 1) T (fun y => if y = (q : Int) then r else R y) i t w5 hR hG hi hk ht0 ht6
        (fun x => by rw [hE1]; have := hEb x; omega) (fun h0 => by rw [hE1]; exact hBI.ahead hl6 hi h0 hk) (fun x => Nat.le_trans (hN1 x) (by omega)) (by omega) hn10 hBd5 hTd
      have hfin : ∀ R', Rl (fun y => if y = (q : Int) then r else R y) R' (stepE f P i (fun y => ((fun y => if y = (q : Int) then r else R y) y).E)) (stepL f P i t (fun y => listE ((fun y => if y = (q : Int) then r else R y) y))) 2 → BI np f (moreP P i t) gap t (fun y => if y = trackOf (f i) (P i).n then ⟨i, t, t + ((f i).leg (P i).n).run + gap⟩ else T y) R' (k + 1) := fun R' hRl =>
        hBI.step hR hG hi hk hlowb.1 hlo'.out.symm ht0 ht6 hrd2 (by rw [Int.toNat_natCast]; exact hSF) hrE hrn hRl
      have hfin' : Hid _ := hfin
      have hf' : Hid _ := hfirst
      clear hfin hE1 hN1 hst5 hSF hlt hrE hrn hfirst hmore hrd2
      go_wp2_with (go_at_call 72; refine hbeg.mono ?_; rintro _ w6 ⟨rfl, v', R', n', hn', hBd6, hRl6, hbl6⟩)
      go_ret
      exact Or.inr ⟨t, v', _, R', n', by rw [hlo'.out]; exact hf'.out, rfl, by omega, hBd6, hfin'.out R' hRl6, (hbc.trans hbl5).trans hbl6⟩
end Go.Proofs.YtelickcfodcmaaaGreatDoor

namespace Go.Proofs.YtelickcfodcmaaaGreatDoor
open Go.RowKit

theorem cells_at {W : World} {k : Nat} {cs : Array Value} {t : TypeId} (h : W.heap[k]? = some (.cells cs t)) {o : Nat} {u : Value} (hu : cs[o]? = some u) : W.cell? ⟨k, o, none⟩ = some u ∧ W.frozen? ⟨k, o, none⟩ = false := by
  constructor
  · simp [World.cell?, h, hu]
  · simp [World.frozen?, h]
theorem kv_new {W : World} {k : TypeId} {b : Nat} {z : Value} (h : W.heap[b]? = some (.map #[] 0)) : KV k W b 0 z (fun _ => z) := by
  have hb : b < W.heap.size := by
    rcases Nat.lt_or_ge b W.heap.size with h' | h'
    · exact h'
    · rw [Array.getElem?_eq_none h'] at h; cases h
  have h0 := KV.made k { W with heap := W.heap.extract 0 b } z
  have hs : ({ W with heap := W.heap.extract 0 b } : World).heap.size = b := by simp; omega
  rw [hs] at h0
  refine h0.same ?_
  have h1 := Go.heap_alloc_new ({ W with heap := W.heap.extract 0 b } : World) (.map #[] 0)
  rw [hs] at h1
  rw [h, h1]
theorem bd_new {B0 : Nat} {W : World} {B gR bT bS : Nat} {a : Option Addr} {len cap : Nat} {gap : Int} {a' : Option Addr} {np cap' : Nat} (hB : W.heap[B]? = some (.cells #[.slice a len cap, .int .i64 gap, .slice a' np cap', .slice (some ⟨gR, 0, none⟩) np np, .int .i64 0, .map (some bT), .map (some bS)] 90))
    (hg : W.heap[gR]? = some (.cells (madeCells #[.slice none 0 0] np) 23)) (hT : W.heap[bT]? = some (.map #[] 0)) (hS : W.heap[bS]? = some (.map #[] 0)) (hd : B0 < B ∧ B0 < gR ∧ B0 < bT ∧ B0 < bS ∧ B ≠ gR ∧ B ≠ bT ∧ B ≠ bS ∧ gR ≠ bT ∧ gR ≠ bS ∧ bT ≠ bS) :
    Bd B0 W B gR bT bS a len cap gap a' np cap' np (fun _ => .slice none 0 0) (fun _ => ⟨0, fun _ => 0⟩) 0 0 (fun _ => ⟨0, 0, 0⟩) (fun _ => ⟨0, none, 0, 0, fun _ => 0⟩) := by
  obtain ⟨d0, d1, d2, d3, d4, d5, d6, d7, d8, d9⟩ := hd
  have hgl : gR < W.heap.size := by
    rcases Nat.lt_or_ge gR W.heap.size with h' | h'
    · exact h'
    · rw [Array.getElem?_eq_none h'] at hg; cases hg
  have hrow : ∀ j, j < np → (madeCells #[Value.slice none 0 0] np)[j]? = some (.slice none 0 0) := fun j hj => by
    rw [← Array.getElem?_toList, toList_madeCells_one, List.getElem?_replicate, if_pos hj]
  refine ⟨⟨⟨(cells_at hB rfl).1, (cells_at hB rfl).1, (cells_at hB rfl).1, (cells_at hB rfl).1, (cells_at hB rfl).1⟩, (cells_at (o := 4) hB rfl).2, fun j hj => ⟨rfl, (cells_at hg (hrow j hj)).1, (cells_at hg (hrow j hj)).2⟩, fun j hj => World.ownsRow_nil _ _ _ _, fun j k _ _ _ => Or.inl rfl, fun j hj => ⟨fun e => (by cases e), fun e => (by cases e)⟩, d4, by omega, by omega⟩,
    (cells_at hB rfl).1, (cells_at hB rfl).1, kv_new hT, kv_new hS, fun x => World.ownsRow_nil _ _ _ _, fun x k h0 h1 => absurd h1 (Nat.not_lt_zero k), fun _ _ _ => Or.inl rfl, fun _ _ _ => Or.inl rfl, fun x k e => (by cases e), fun j _ k e => (by cases e), ⟨d5, d6, d7, d8, d9⟩, ⟨by omega, by omega⟩, hgl⟩
theorem bi_new (np : Nat) (f : Nat → TrainD) (gap : Int) : BI np f (fun _ => ⟨0, fun _ => 0⟩) gap 0 (fun _ => ⟨0, 0, 0⟩) (fun _ => ⟨0, none, 0, 0, fun _ => 0⟩) 0 := by
  refine ⟨⟨fun x => Or.inl ⟨fun j hj m hm => absurd hm (Nat.not_lt_zero m), rfl⟩, fun j hj m hm => absurd hm (Nat.not_lt_zero _)⟩, ?_, fun x => Nat.le_refl _, fun x e he => ?_⟩
  · exact (SI.start np f 0).perm (fun _ => rfl) (fun _ => List.Perm.refl _)
  · cases he
end Go.Proofs.YtelickcfodcmaaaGreatDoor

namespace Go.Proofs.YtelickcfodcmaaaGreatDoor
open Go.RowKit

theorem sum_le {f : Nat → TrainD} {P : Nat → RowD} : ∀ {n : Nat}, (∀ j, j < n → (P j).n ≤ (f j).nl) → rowSumQ P n ≤ legSum f n
  | 0, _ => Nat.le_refl _
  | n + 1, h => by
    have h1 := sum_le (n := n) (fun j hj => h j (by omega))
    have h2 := h n (by omega)
    simp only [rowSumQ, legSum]; omega
theorem sum_eq {f : Nat → TrainD} {P : Nat → RowD} : ∀ {n : Nat}, (∀ j, j < n → (P j).n ≤ (f j).nl) → (rowSumQ P n = legSum f n ↔ ∀ j, j < n → (P j).n = (f j).nl)
  | 0, _ => ⟨fun _ j hj => absurd hj (Nat.not_lt_zero j), fun _ => rfl⟩
  | n + 1, h => by
    have ih := sum_eq (n := n) (fun j hj => h j (by omega))
    have h1 := sum_le (n := n) (fun j hj => h j (by omega))
    have h2 := h n (by omega)
    simp only [rowSumQ, legSum]
    constructor
    · intro e j hj
      rcases Nat.lt_or_ge j n with h3 | h3
      · exact ih.1 (by omega) j h3
      · obtain rfl : j = n := by omega
        omega
    · intro e
      have h3 := ih.2 (fun j hj => e j (by omega))
      have h4 := e n (by omega)
      omega
theorem moreB_no {np : Nat} {f : Nat → TrainD} {P : Nat → RowD} (hle : ∀ j, j < np → (P j).n ≤ (f j).nl) : (∀ j : Nat, j < np → moreB np f P (j : Int) = false) ↔ rowSumQ P np = legSum f np := by
  rw [sum_eq hle]
  constructor
  · intro h j hj
    have h1 := h j hj
    unfold moreB at h1
    have e1 : inB (j : Int) 0 ((np : Int) - 1) = true := decide_eq_true ⟨by omega, by omega⟩
    rw [e1, Int.toNat_natCast, Bool.true_and] at h1
    have := of_decide_eq_false h1
    have := hle j hj
    omega
  · intro h j hj
    unfold moreB
    rw [Int.toNat_natCast, decide_eq_false (by have := h j hj; omega), Bool.and_false]

set_option maxRecDepth 20000 in
set_option maxHeartbeats 4000000 in
theorem implPlace_line (a : Option Addr) (len cap : Nat) (g : Nat → Int) (gap : Int) (a' : Option Addr) (np cap' : Nat) (f : Nat → TrainD) (oa : Option Addr) (no oc : Nat) (o : Nat → Int) (w : World) (hl : len ≤ 1048576) (hl' : np ≤ 1048576) (hml : ∀ j, j < np → (f j).nl ≤ 1048576)
    (hI : IsInts 0 w.heap.size w a len g) (hT : IsTrains 0 w.heap.size w a' np f) (hno : no ≤ 1048576) (hg : w.cell? ⟨0, 0, none⟩ = some (.iface 234 (.agg #[.pointer (some ⟨1, 165, none⟩)]))) (hbad : ¬ ((faultOf len g gap np f).1 = 0 ∧ no ≤ 10)) :
    Calls Tryz.prog 11 #[.agg #[.slice a len cap, .int .i64 gap, .slice a' np cap'], .slice oa no oc] w fun e w' => (∃ v, e = .returned v ∧ IsPlaced w.heap.size w' (placeSt len g gap np f no o) np v) ∧ Below w.heap.size w w' := by
  have hst : placeSt len g gap np f no o = ⟨1, 0, fun _ => ⟨0, fun _ => 0⟩, 0⟩ := by unfold placeSt; rw [if_neg hbad]
  rw [hst]
  have hN := b2 w (.cells #[.slice a len cap, .int .i64 gap, .slice a' np cap'] 26) (.cells #[.int .i64 0, .int .i64 0, .slice none 0 0] 38)
  obtain ⟨⟨y0, y1, y2⟩, hRm⟩ := box31 w a len cap gap a' np cap' 26 38
  have lR : w.heap.size + 1 < ((w.alloc (.cells #[.slice a len cap, .int .i64 gap, .slice a' np cap'] 26)).alloc (.cells #[.int .i64 0, .int .i64 0, .slice none 0 0] 38)).heap.size := by simp
  by_cases hF : (faultOf len g gap np f).1 = 0
  · have hn : ¬ no ≤ 10 := fun h => hbad ⟨hF, h⟩
    have hn' : (10 : Int) < (no : Int) := by omega
    have hok := isRight_yes a len cap g gap a' np cap' f _ hl hl' hml (hI.grow hN) (hT.grow hN) (cellLater hN hg) (faultOf_snd hF)
    go_enter Tryz.func11, Tryz.ntmps11
    go_wp2_with (go_at_call 40; refine hok.mono ?_; rintro _ w2 ⟨rfl, hB2⟩; obtain ⟨v0, m0, z0⟩ := (hRm.below hB2 lR) 0 (by omega); obtain ⟨v1, m1, z1⟩ := (hRm.below hB2 lR) 1 (by omega); obtain ⟨v2, m2, z2⟩ := (hRm.below hB2 lR) 2 (by omega))
    refine bodyPost_ret (v := .agg #[.int .i64 1, .int .i64 0, .slice none 0 0]) (by simp [results, Tryz.results11, go_sem, m0, m1, m2]) rfl ⟨⟨_, rfl, .slice none 0 0, rfl, fun _ => rfl, fun h => by simp at h⟩, ?_⟩
    exact below_set3 (Below.join hN (Nat.le_refl _) hB2) (by omega) _ _ _
  · have hok := isRight_no a len cap g gap a' np cap' f _ hl hl' hml (hI.grow hN) (hT.grow hN) (cellLater hN hg) hF
    go_enter Tryz.func11, Tryz.ntmps11
    go_wp2_with (go_at_call 40; refine hok.mono ?_; rintro _ w2 ⟨rfl, hB2⟩; obtain ⟨v0, m0, z0⟩ := (hRm.below hB2 lR) 0 (by omega); obtain ⟨v1, m1, z1⟩ := (hRm.below hB2 lR) 1 (by omega); obtain ⟨v2, m2, z2⟩ := (hRm.below hB2 lR) 2 (by omega))
    refine bodyPost_ret (v := .agg #[.int .i64 1, .int .i64 0, .slice none 0 0]) (by simp [results, Tryz.results11, go_sem, m0, m1, m2]) rfl ⟨⟨_, rfl, .slice none 0 0, rfl, fun _ => rfl, fun h => by simp at h⟩, ?_⟩
    exact below_set3 (Below.join hN (Nat.le_refl _) hB2) (by omega) _ _ _
end Go.Proofs.YtelickcfodcmaaaGreatDoor

namespace Go.Proofs.YtelickcfodcmaaaGreatDoor
open Go.RowKit

set_option maxRecDepth 20000 in
set_option maxHeartbeats 8000000 in
theorem implPlace_main (a : Option Addr) (len cap : Nat) (g : Nat → Int) (gap : Int) (a' : Option Addr) (np cap' : Nat) (f : Nat → TrainD) (oa : Option Addr) (no oc : Nat) (o : Nat → Int) (w : World) (hl : len ≤ 1048576) (hl' : np ≤ 1048576) (hml : ∀ j, j < np → (f j).nl ≤ 1048576)
    (hI : IsInts 0 w.heap.size w a len g) (hT : IsTrains 0 w.heap.size w a' np f) (hO : IsInts 0 w.heap.size w oa no o) (hg : w.cell? ⟨0, 0, none⟩ = some (.iface 234 (.agg #[.pointer (some ⟨1, 165, none⟩)]))) (hF : faultOf len g gap np f = (0, 0)) (hno : no ≤ 10) :
    Calls Tryz.prog 11 #[.agg #[.slice a len cap, .int .i64 gap, .slice a' np cap'], .slice oa no oc] w fun e w' => (∃ v, e = .returned v ∧ IsPlaced w.heap.size w' (placeSt len g gap np f no o) np v) ∧ Below w.heap.size w w' := by
  have hR := rightL_of hF
  have hG := rightG_of hF
  have htr := hR.tr
  have hst : placeSt len g gap np f no o = if (runP np g f gap o no).code ≠ 0 then runP np g f gap o no else if no = legSum f np then runP np g f gap o no else ⟨4, no, (runP np g f gap o no).P, (runP np g f gap o no).last⟩ := by unfold placeSt; rw [if_pos ⟨by rw [hF], hno⟩]
  have hst' : Hid _ := hst
  generalize placeSt len g gap np f no o = ST at hst'
  clear hst
  have hN := b2 w (.cells #[.slice a len cap, .int .i64 gap, .slice a' np cap'] 26) (.cells #[.int .i64 0, .int .i64 0, .slice none 0 0] 38)
  obtain ⟨⟨y0, y1, y2⟩, hRm⟩ := box31 w a len cap gap a' np cap' 26 38
  have hok := isRight_yes a len cap g gap a' np cap' f _ hl hl' hml (hI.grow hN) (hT.grow hN) (cellLater hN hg) hF
  have hno' : ¬ ((10 : Int) < (no : Int)) := by omega
  have lR : w.heap.size + 1 < ((w.alloc (.cells #[.slice a len cap, .int .i64 gap, .slice a' np cap'] 26)).alloc (.cells #[.int .i64 0, .int .i64 0, .slice none 0 0] 38)).heap.size := by simp
  go_enter Tryz.func11, Tryz.ntmps11
  go_wp2_with (first | (go_at_call 40; refine hok.mono ?_; rintro _ w2 ⟨rfl, hB2⟩; have hBw := Below.join hN (Nat.le_refl _) hB2; replace y0 := cellLater hB2 y0; replace y1 := cellLater hB2 y1; replace y2 := cellLater hB2 y2; replace hRm := hRm.below hB2 lR; have lR2 := Nat.lt_of_lt_of_le lR hB2.size) | (go_at_call 41; refine (newBoard_any a len cap gap a' np cap' w2 (by omega)).mono ?_; rintro _ W ⟨B, gR, bT, bS, rfl, hb1, hb2, hb3, hb4, hd, hB3⟩; have hBd0 := bd_new hb1 hb2 hb3 hb4 hd; clear hb1 hb2 hb3 hb4 hd; replace hBw := Below.join hBw (Nat.le_refl _) hB3; replace hRm := hRm.below hB3 lR2))
  have hWs : w2.heap.size ≤ W.heap.size := hB3.size
  clear hok hB2 hN hB3 hno' y0 y1 y2
  go_loopw [22] (fun kk wr => ∃ (k : Nat) (v : Nat → Value) (T : Int → TrackD) (R : Int → RoomD) (n : Nat), k ≤ no ∧ kk = .int .i64 k ∧ (runP np g f gap o k).code = 0 ∧ RunOk len np g f gap (runP np g f gap o k) k ∧ Bd w2.heap.size wr B gR bT bS a len cap gap a' np cap' np v (runP np g f gap o k).P (runP np g f gap o k).last n T R ∧ BI np f (runP np g f gap o k).P gap (runP np g f gap o k).last T R k ∧ n ≤ 5 * k ∧ Below w2.heap.size W wr) (fun kk _ => no - (intOf kk).toNat)
  case atStart => exact ⟨0, _, _, _, 0, Nat.zero_le _, rfl, rfl, runP_zero np g f gap o len, hBd0, bi_new np f gap, Nat.le_refl _, Below.refl _ _⟩
  case round =>
    obtain ⟨k, v, T, R, n, hk, rfl, hcode, hrun, hB, hBI, hn5, hBr⟩ := hrel
    clear hBd0
    have hlw : w.heap.size ≤ w2.heap.size := by omega
    have hBwr : Below w.heap.size w wr := hBw.trans (hBr.mono hlw)
    have hbase := hB.base
    have hIw : IsInts 0 w2.heap.size wr a len g := (hI.below hBwr (Nat.le_refl _)).mono (Nat.le_refl 0) hlw
    have hTw : IsTrains 0 w2.heap.size wr a' np f := (hT.below hBwr (Nat.le_refl _)).mono (Nat.le_refl 0) hlw
    have hTs : IsTrains 0 wr.heap.size wr a' np f := hTw.mono (Nat.le_refl 0) hbase
    have hRw := hRm.below hBr (by omega)
    have hn10 : ∀ j, j < np → ((runP np g f gap o k).P j).n ≤ 10 := fun j hj => Nat.le_trans (hrun.part.le j hj) (hR.train j hj).nl
    by_cases hlt : k < no
    · have hk' : (k : Int) < (no : Int) := by omega
      have hk0 : (0 : Int) ≤ (k : Int) := by omega
      obtain ⟨bo, oo, rfl, _, _, qo⟩ := hO k hlt
      replace qo := (hBwr.cell (p := ⟨bo, oo + k, none⟩) (by dsimp only; omega)).trans qo
      have hrun1 : runP np g f gap o (k + 1) = stepP np g f gap (o k) k (runP np g f gap o k) := rfl
      have hstick : ∀ st : StP, runP np g f gap o (k + 1) = st → st.code ≠ 0 → runP np g f gap o no = st := fun st h1 h2 => by
        have := runP_stick (np := np) (g := g) (f := f) (gap := gap) (o := o) (k := k + 1) (by rw [h1]; exact h2) (no - (k + 1))
        rw [show k + 1 + (no - (k + 1)) = no by omega, h1] at this
        exact this
      have hrun1' : Hid _ := hrun1
      have hstick' : Hid _ := hstick
      clear hrun1 hstick
      generalize hst0 : runP np g f gap o k = st at hcode hrun hB hBI hn10
      rw [hst0] at hrun1'
      clear hst0
      generalize o k = ok at qo hrun1'
      have hpart := hrun.part
      cases hm : moreB np f st.P ok
      · have hstv : Hid (ST = ⟨2, k, st.P, st.last⟩) := by
          unfold Hid
          have h1 : runP np g f gap o (k + 1) = ⟨2, k, st.P, st.last⟩ := by
            rw [hrun1'.out]
            unfold stepP
            rw [if_neg (by simp [hcode])]
            cases hin : inB ok 0 ((np : Int) - 1)
            · rw [if_neg (by simp)]
            · obtain ⟨h00, h01⟩ := of_decide_eq_true hin
              have hle := hpart.le ok.toNat (by omega)
              unfold moreB at hm
              rw [hin, Bool.true_and] at hm
              have hge := of_decide_eq_false hm
              rw [if_pos rfl, nextOf_two (by omega), if_neg (by simp)]
          have h2 := hstick'.out _ h1 (by simp)
          rw [hst'.out, h2, if_pos (by simp)]
        have hPl := place_no B a len cap gap a' np cap' f (some ⟨gR, 0, none⟩) np st.P st.last ok wr hR hB.lp.l2 hTs (hB.lp.rows hn10) hm
        obtain ⟨r0, rm0, rz0⟩ := hRw 0 (by omega)
        obtain ⟨r1, rm1, rz1⟩ := hRw 1 (by omega)
        obtain ⟨r2, rm2, rz2⟩ := hRw 2 (by omega)
        clear hm hrun1' hstick'
        go_wp2_with (go_at_call 42; refine hPl.mono ?_; rintro _ w5 ⟨rfl, hB5⟩; replace rz0 := (hB5.frozen (ltCell rm0)).trans rz0; replace rz1 := (hB5.frozen (ltCell rm1)).trans rz1; replace rz2 := (hB5.frozen (ltCell rm2)).trans rz2; replace rm0 := cellLater hB5 rm0; replace rm1 := cellLater hB5 rm1; replace rm2 := cellLater hB5 rm2)
        refine bodyPost_ret (v := .agg #[.int .i64 2, .int .i64 k, .slice none 0 0]) (by simp [results, Tryz.results11, go_sem, rm0, rm1, rm2]) rfl ⟨⟨_, rfl, .slice none 0 0, by rw [hstv.out], fun _ => rfl, fun h => by rw [hstv.out] at h; simp at h⟩, below_set3 (Below.join hBwr (Nat.le_refl _) hB5) (by omega) _ _ _⟩
      · unfold moreB at hm
        simp only [Bool.and_eq_true] at hm
        obtain ⟨hin, hlt2⟩ := hm
        obtain ⟨h00, h01⟩ := of_decide_eq_true hin
        obtain ⟨i, hi⟩ : ∃ i : Nat, ok = (i : Int) := ⟨ok.toNat, by omega⟩
        subst hi
        rw [Int.toNat_natCast] at hlt2
        have hnlt := of_decide_eq_true hlt2
        have hip : i < np := by omega
        clear h00 h01 hlt2
        have hnn : (st.P i).n ≠ (f i).nl := by omega
        have hk10 : k < 10 := by omega
        have hbad : ∀ cc : Int, cc ≠ 0 → nextOf np g f st.P gap st.last i = (cc, 0) → ST = ⟨cc, k, st.P, st.last⟩ := fun cc hc hn => by
          have h1 : runP np g f gap o (k + 1) = ⟨cc, k, st.P, st.last⟩ := by rw [hrun1'.out]; unfold stepP; rw [if_neg (by simp [hcode]), if_pos hin, Int.toNat_natCast, hn, if_neg (by simpa using hc)]
          have h2 := hstick'.out _ h1 hc
          rw [hst'.out, h2, if_pos hc]
        have hbad' : Hid _ := hbad
        have hin' : Hid _ := hin
        clear hbad hin hstick'
        have hPl := place_main w2.heap.size B gR bT bS a len cap g gap a' np cap' np f v st.P st.last n T R k i wr hR hG hpart hip hnlt hk10 hrun.lb (by omega) hB hBI hIw hTw
        obtain ⟨r0, rm0, rz0⟩ := hRw 0 (by omega)
        obtain ⟨r1, rm1, rz1⟩ := hRw 1 (by omega)
        obtain ⟨r2, rm2, rz2⟩ := hRw 2 (by omega)
        go_wp2_with (go_at_call 42; refine hPl.mono ?_; rintro _ w5 hpost; have hb5 : Below w2.heap.size wr w5 := (by rcases hpost with ⟨_, _, h⟩ | ⟨_, _, _, _, _, _, _, _, _, _, h⟩ <;> exact h); replace rz0 := (hb5.frozen (p := ⟨w.heap.size + 1, 0, none⟩) lR2).trans rz0; replace rz1 := (hb5.frozen (p := ⟨w.heap.size + 1, 1, none⟩) lR2).trans rz1; replace rz2 := (hb5.frozen (p := ⟨w.heap.size + 1, 2, none⟩) lR2).trans rz2; replace rm0 := (hb5.cell (p := ⟨w.heap.size + 1, 0, none⟩) lR2).trans rm0; replace rm1 := (hb5.cell (p := ⟨w.heap.size + 1, 1, none⟩) lR2).trans rm1; replace rm2 := (hb5.cell (p := ⟨w.heap.size + 1, 2, none⟩) lR2).trans rm2; rcases hpost with (⟨hall, rfl, _⟩ | ⟨t, v', T', R', n', hfst, rfl, hn', hB5, hBI5, hbl5⟩))
        · have hstv : Hid (ST = ⟨3, k, st.P, st.last⟩) := hbad'.out 3 (by decide) (nextOf_three hnn hall)
          clear hbad' hrun1' hall
          go_wp2
          refine bodyPost_ret (v := .agg #[.int .i64 3, .int .i64 k, .slice none 0 0]) (by simp [results, Tryz.results11, go_sem, rm0, rm1, rm2]) rfl ⟨⟨_, rfl, .slice none 0 0, by rw [hstv.out], fun _ => rfl, fun h => by rw [hstv.out] at h; simp at h⟩, below_set3 (hBwr.trans (hb5.mono hlw)) (by omega) _ _ _⟩
        · have hstp := runOk_step hR hG hrun hcode hip hnlt hfst hk10
          have hr1 : Hid (runP np g f gap o (k + 1) = ⟨0, 0, moreP st.P i t, t⟩) := by unfold Hid; rw [hrun1'.out]; exact hstp.1
          have hr2 : Hid _ := hstp.2
          clear hbad' hrun1' hstp hfst
          go_wp2
          go_roundw
          case rel => exact ⟨k + 1, v', T', R', n', by omega, by go_num, by rw [hr1.out], by rw [hr1.out]; exact hr2.out, by rw [hr1.out]; exact hB5, by rw [hr1.out]; exact hBI5, by omega, hBr.trans hbl5⟩
          case measure => simp [intOf]; omega
    · obtain rfl : k = no := by omega
      have hsum := hrun.sum
      have hWh := isWhole_any B a len cap gap a' np cap' f (some ⟨gR, 0, none⟩) np (runP np g f gap o k).P (runP np g f gap o k).last wr hR hB.lp.l2 hTs (hB.lp.rows hn10)
      have hiff := moreB_no (f := f) hrun.part.le
      obtain ⟨r0, rm0, rz0⟩ := hRw 0 (by omega)
      obtain ⟨r1, rm1, rz1⟩ := hRw 1 (by omega)
      obtain ⟨r2, rm2, rz2⟩ := hRw 2 (by omega)
      have hown := hB.lp.ownP
      have x3 := hB.lp.l2.c3
      by_cases hkl : k = legSum f np
      · have hstv : Hid (ST = runP np g f gap o k) := by unfold Hid; rw [hst'.out, if_neg (by simp [hcode]), if_pos hkl]
        have hat : Hid ((runP np g f gap o k).at_ = 0) := runP_at k hcode
        have hall := hiff.2 (hsum.trans hkl)
        have hWh2 : Calls Tryz.prog 43 #[.pointer (some ⟨B, 0, none⟩)] wr fun e w' => e = .returned (.bool true) ∧ Below wr.heap.size wr w' := hWh.mono (fun e w' ⟨⟨r, he, hr⟩, hb⟩ => ⟨by rw [he, hr.2 hall], hb⟩)
        clear hkl hiff hall hWh hsum
        go_wp2_with (go_at_call 43; refine hWh2.mono ?_; rintro _ w5 ⟨rfl, hB5⟩; replace rz0 := (hB5.frozen (ltCell rm0)).trans rz0; replace rz1 := (hB5.frozen (ltCell rm1)).trans rz1; replace rz2 := (hB5.frozen (ltCell rm2)).trans rz2; replace rm0 := cellLater hB5 rm0; replace rm1 := cellLater hB5 rm1; replace rm2 := cellLater hB5 rm2; replace x3 := cellLater hB5 x3; replace hown := hown.later hB5)
        refine bodyPost_ret (v := .agg #[.int .i64 0, .int .i64 0, .slice (some ⟨gR, 0, none⟩) np np]) (by simp [results, Tryz.results11, go_sem, rm0, rm1, rm2]) rfl ⟨⟨_, rfl, .slice (some ⟨gR, 0, none⟩) np np, by rw [hstv.out, hcode, hat.out]; rfl, fun h => by rw [hstv.out] at h; exact absurd hcode h, fun _ => ⟨_, _, rfl, ?_, ?_⟩⟩, below_set3 (Below.join hBwr (Nat.le_refl _) hB5) (by omega) _ _ _⟩
        · rw [hstv.out]
          exact (((hown.set (by dsimp only; omega)).set (by dsimp only; omega)).set (by dsimp only; omega)).low (by omega)
        · rw [hstv.out]
          exact hn10
      · have hstv : Hid (ST = ⟨4, k, (runP np g f gap o k).P, (runP np g f gap o k).last⟩) := by unfold Hid; rw [hst'.out, if_neg (by simp [hcode]), if_neg hkl]
        have hWh2 : Calls Tryz.prog 43 #[.pointer (some ⟨B, 0, none⟩)] wr fun e w' => e = .returned (.bool false) ∧ Below wr.heap.size wr w' := hWh.mono (fun e w' ⟨⟨r, he, hr⟩, hb⟩ => ⟨by
          cases r with
          | false => exact he
          | true => exact absurd (hsum.symm.trans (hiff.1 (hr.1 rfl))) hkl, hb⟩)
        clear hkl hiff hWh hsum
        go_wp2_with (go_at_call 43; refine hWh2.mono ?_; rintro _ w5 ⟨rfl, hB5⟩; replace rz0 := (hB5.frozen (ltCell rm0)).trans rz0; replace rz1 := (hB5.frozen (ltCell rm1)).trans rz1; replace rz2 := (hB5.frozen (ltCell rm2)).trans rz2; replace rm0 := cellLater hB5 rm0; replace rm1 := cellLater hB5 rm1; replace rm2 := cellLater hB5 rm2)
        refine bodyPost_ret (v := .agg #[.int .i64 4, .int .i64 k, .slice none 0 0]) (by simp [results, Tryz.results11, go_sem, rm0, rm1, rm2]) rfl ⟨⟨_, rfl, .slice none 0 0, by rw [hstv.out], fun _ => rfl, fun h => by rw [hstv.out] at h; simp at h⟩, below_set3 (Below.join hBwr (Nat.le_refl _) hB5) (by omega) _ _ _⟩

theorem implPlace_any (a : Option Addr) (len cap : Nat) (g : Nat → Int) (gap : Int) (a' : Option Addr) (np cap' : Nat) (f : Nat → TrainD) (oa : Option Addr) (no oc : Nat) (o : Nat → Int) (w : World) (hl : len ≤ 1048576) (hl' : np ≤ 1048576) (hml : ∀ j, j < np → (f j).nl ≤ 1048576) (hno : no ≤ 1048576)
    (hI : IsInts 0 w.heap.size w a len g) (hT : IsTrains 0 w.heap.size w a' np f) (hO : IsInts 0 w.heap.size w oa no o) (hg : w.cell? ⟨0, 0, none⟩ = some (.iface 234 (.agg #[.pointer (some ⟨1, 165, none⟩)]))) :
    Calls Tryz.prog 11 #[.agg #[.slice a len cap, .int .i64 gap, .slice a' np cap'], .slice oa no oc] w fun e w' => (∃ v, e = .returned v ∧ IsPlaced w.heap.size w' (placeSt len g gap np f no o) np v) ∧ Below w.heap.size w w' := by
  by_cases h : (faultOf len g gap np f).1 = 0 ∧ no ≤ 10
  · exact implPlace_main a len cap g gap a' np cap' f oa no oc o w hl hl' hml hI hT hO hg (faultOf_snd h.1) h.2
  · exact implPlace_line a len cap g gap a' np cap' f oa no oc o w hl hl' hml hI hT hno hg h
end Go.Proofs.YtelickcfodcmaaaGreatDoor

namespace Go.Proofs.YtelickcfodcmaaaGreatDoor
open Go.RowKit Go.Deep Go.ChangeShapes Go.WideShapes Go.Joins

theorem Tryz.cellsInt : Tryz.prog.cellsOf 3 = 1 := by kernel_rfl
section
variable {H : Type} {enc : TypeId × Value → H} {w : World} {base : Nat} {spare : Nat → Bool} {held : Bool}

theorem spotOf {a : Addr} {i : Nat} {v : Value} (h : w.cell? (a.add 0) = some v) : ∃ b off, a = ⟨b, off, none⟩ ∧ a.add i = ⟨b, off + i, none⟩ := by
  obtain ⟨b, off, spot⟩ := a
  have hspot : spot = none := by simpa [Addr.add] using World.cell?_spot h
  subst hspot
  exact ⟨b, off, rfl, Go.WideShapes.add_plain _ _ _⟩

theorem readInts {fuel : Nat} {v : Value} {x : DataW H × List MemPlace} (h : DataW.trod enc Tryz.prog w base spare held fuel 23 [v] = some x) :
    ∃ (a : Option Addr) (len cap : Nat) (f : Nat → Int), v = .slice a len cap ∧ len ≤ maxLen ∧ IsInts 0 w.heap.size w a len f := by
  rcases open_slice1 Tryz.underlying23 Tryz.cellsInt h with ⟨hcs, _⟩ | ⟨a, len, cap, m, n, V, D, Pl, hcs, _, hl, hm, hmm, _, hx⟩
  · exact ⟨none, 0, 0, fun _ => 0, by simpa using hcs, Nat.zero_le _, fun j hj => absurd hj (Nat.not_lt_zero _)⟩
  · have hle : len ≤ m := by rw [hmm]; split <;> omega
    obtain ⟨f, hf⟩ := choose_lt (α := Int) (n := len) (p := fun i y => w.cell? (a.add i) = some (.int .i64 y)) (fun i hi => by
      obtain ⟨h1, h2⟩ := hx i (by omega)
      obtain ⟨y, e, _, _⟩ := DataW.trod_int Tryz.underlying3 h2
      simp at e
      exact ⟨y, by rw [h1, e]⟩)
    refine ⟨some a, len, cap, f, by simpa using hcs, by omega, fun j hj => ?_⟩
    obtain ⟨b, off, rfl, e⟩ := spotOf (i := j) (hf 0 (by omega))
    have := hf j hj
    rw [e] at this
    exact ⟨b, off, rfl, Nat.zero_le _, ltCell (a := ⟨b, _, none⟩) this, this⟩

theorem cells3Of {a : Addr} {cs : List Value} (h : w.cells? base a 3 = some cs) : ∃ x y z, cs = [x, y, z] ∧ w.cell? (a.add 0) = some x ∧ w.cell? (a.add 1) = some y ∧ w.cell? (a.add 2) = some z := by
  unfold World.cells? at h
  split at h
  · simp [List.range, List.range.loop, Option.bind_eq_some_iff] at h
    obtain ⟨x, hx, l, ⟨y, hy, l', ⟨z, hz, rfl⟩, rfl⟩, rfl⟩ := h
    exact ⟨x, y, z, rfl, hx, hy, hz⟩
  · cases h
theorem cells5Of {a : Addr} {cs : List Value} (h : w.cells? base a 5 = some cs) : ∃ x y z u v, cs = [x, y, z, u, v] ∧ w.cell? (a.add 0) = some x ∧ w.cell? (a.add 1) = some y ∧ w.cell? (a.add 2) = some z ∧ w.cell? (a.add 3) = some u ∧ w.cell? (a.add 4) = some v := by
  unfold World.cells? at h
  split at h
  · simp [List.range, List.range.loop, Option.bind_eq_some_iff] at h
    obtain ⟨x, hx, l, ⟨y, hy, l', ⟨z, hz, l'', ⟨u, hu, l3, ⟨v, hv, rfl⟩, rfl⟩, rfl⟩, rfl⟩, rfl⟩ := h
    exact ⟨x, y, z, u, v, rfl, hx, hy, hz, hu, hv⟩
  · cases h

instance : Inhabited LegD := ⟨⟨0, 0, 0⟩⟩
instance : Inhabited TrainD := ⟨⟨0, 0, 0, 0, 0, fun _ => default⟩⟩

end
end Go.Proofs.YtelickcfodcmaaaGreatDoor

namespace Go.Proofs.YtelickcfodcmaaaGreatDoor
open Go.RowKit Go.Deep Go.ChangeShapes Go.WideShapes Go.Joins

theorem Tryz.cellsByte : Tryz.prog.cellsOf 5 = 1 := by kernel_rfl
theorem u8_wf {n : Int} (h : (Lit.int .u8 n).wf = true) : 0 ≤ n ∧ n ≤ 255 := by
  simp only [Lit.wf, Bool.and_eq_true, decide_eq_true_eq] at h
  have h0 : IntKind.u8.min = 0 := by decide
  have h1 : IntKind.u8.max = 255 := by decide
  omega
section
variable {H : Type} {enc : TypeId × Value → H} {w : World} {base : Nat} {spare : Nat → Bool} {held : Bool}
theorem readBytes {fuel : Nat} {v : Value} {x : DataW H × List MemPlace} (h : DataW.trod enc Tryz.prog w base spare held fuel 22 [v] = some x) :
    ∃ (a : Option Addr) (len cap : Nat), v = .slice a len cap ∧ IsB w a len := by
  rcases open_slice1 Tryz.underlying22 Tryz.cellsByte h with ⟨hcs, _⟩ | ⟨a, len, cap, m, n, V, D, Pl, hcs, _, hl, hm, hmm, _, hx⟩
  · exact ⟨none, 0, 0, by simpa using hcs, fun j hj => absurd hj (Nat.not_lt_zero _)⟩
  · have hle : len ≤ m := by rw [hmm]; split <;> omega
    obtain ⟨f, hf⟩ := choose_lt (α := Int) (n := len) (p := fun i y => w.cell? (a.add i) = some (.int .u8 y) ∧ 0 ≤ y ∧ y ≤ 255) (fun i hi => by
      obtain ⟨h1, h2⟩ := hx i (by omega)
      obtain ⟨y, e, _, hwf⟩ := DataW.trod_int Tryz.underlying5 h2
      simp at e
      exact ⟨y, by rw [h1, e], u8_wf hwf⟩)
    refine ⟨some a, len, cap, by simpa using hcs, fun j hj => ?_⟩
    obtain ⟨b, off, rfl, e⟩ := spotOf (i := j) (hf 0 (by omega)).1
    have := hf j hj
    rw [e] at this
    exact ⟨b, off, f j, rfl, this.1, this.2⟩
end
end Go.Proofs.YtelickcfodcmaaaGreatDoor
