/-
  The model's word on how many trains have a station's tracks by what is placed.
-/
import Derived.Test.YtelickcfodcmaaaGreatDoorPlainQ
import Derived.Test.YtelickcfodcmaaaGreatDoorSpecQ
namespace Go.Proofs.YtelickcfodcmaaaGreatDoor
open Go.RowKit

/-- the model's own record of what is placed, behind a pointer -/
structure L2 (W : World) (b : Nat) (a : Option Addr) (len cap : Nat) (gap : Int) (a' : Option Addr) (np cap' : Nat) (c : Option Addr) (nc : Nat) (last : Int) : Prop where
  c0 : W.cell? ⟨b, 0, none⟩ = some (.slice a len cap)
  c1 : W.cell? ⟨b, 1, none⟩ = some (.int .i64 gap)
  c2 : W.cell? ⟨b, 2, none⟩ = some (.slice a' np cap')
  c3 : W.cell? ⟨b, 3, none⟩ = some (.slice c np nc)
  c4 : W.cell? ⟨b, 4, none⟩ = some (.int .i64 last)
theorem L2.later {W W' : World} {b : Nat} {a : Option Addr} {len cap : Nat} {gap : Int} {a' : Option Addr} {np cap' : Nat} {c : Option Addr} {nc : Nat} {last : Int} (h : L2 W b a len cap gap a' np cap' c nc last) (hB : Below W.heap.size W W') : L2 W' b a len cap gap a' np cap' c nc last :=
  ⟨cellLater hB h.c0, cellLater hB h.c1, cellLater hB h.c2, cellLater hB h.c3, cellLater hB h.c4⟩

theorem hereB_no {f : Nat → TrainD} {P : Nat → RowD} {s t : Int} {j m : Nat} (h : ((f j).leg m).to ≠ s) : hereB f P s t j m = false := by unfold hereB; simp [h]
theorem hereB_next {f : Nat → TrainD} {P : Nat → RowD} {s t : Int} {j m : Nat} (h : ((f j).leg m).to = s) (hm : m + 1 < (P j).n) : hereB f P s t j m = decide (t ≤ (P j).s (m + 1)) := by unfold hereB leaveO; simp [h, hm]
theorem hereB_ever {f : Nat → TrainD} {P : Nat → RowD} {s t : Int} {j m : Nat} (h : ((f j).leg m).to = s) (hm : ¬ m + 1 < (P j).n) (hn : m + 1 < (f j).nl) : hereB f P s t j m = true := by unfold hereB leaveO; simp [h, hm, hn]
theorem hereB_end {f : Nat → TrainD} {P : Nat → RowD} {s t : Int} {j m : Nat} (h : ((f j).leg m).to = s) (hm : ¬ m + 1 < (P j).n) (hn : ¬ m + 1 < (f j).nl) : hereB f P s t j m = decide (t ≤ (P j).s m + ((f j).leg m).run) := by unfold hereB leaveO; simp [h, hm, hn]

set_option maxRecDepth 20000 in
set_option maxHeartbeats 8000000 in
theorem there_any (b : Nat) (a : Option Addr) (len cap : Nat) (gap : Int) (a' : Option Addr) (np cap' : Nat) (f : Nat → TrainD) (c : Option Addr) (nc : Nat) (P : Nat → RowD) (last s t : Int) (w : World) (hR : RightL len np f) (hQ : PartP np f P last)
    (hL : L2 w b a len cap gap a' np cap' c nc last) (hT : IsTrains 0 w.heap.size w a' np f) (hP : IsRows 0 w.heap.size w c np P) :
    Calls Tryz.prog 137 #[.pointer (some ⟨b, 0, none⟩), .int .i64 s, .int .i64 t] w fun e w' => e = .returned (.int .i64 (thereAll f P s t np : Nat)) ∧ Below w.heap.size w w' := by
  have htr := hR.tr
  have hn10 : ∀ j, j < np → (P j).n ≤ 10 := fun j hj => Nat.le_trans (hQ.le j hj) (hR.train j hj).nl
  have hle := fun j hj => thereAll_le (f := f) (s := s) (t := t) hn10 j hj
  have x2 := hL.c2
  have x3 := hL.c3
  go_enter Tryz.func137, Tryz.ntmps137
  go_wp2
  go_loopw [7, 18] (fun cc jj wr => ∃ (j : Nat), j ≤ np ∧ jj = .int .i64 j ∧ cc = .int .i64 (thereAll f P s t j : Nat) ∧ Below w.heap.size w wr) (fun _ jj _ => np - (intOf jj).toNat)
  case atStart => exact ⟨0, Nat.zero_le _, rfl, rfl, Below.refl _ _⟩
  case round =>
    obtain ⟨j, hj, rfl, rfl, hB⟩ := hrel
    by_cases hlt : j < np
    · have hj' : (j : Int) < (np : Int) := by omega
      have hj0 : (0 : Int) ≤ (j : Int) := by omega
      have hRj := hR.train j hlt
      have hnlj := hRj.nl
      have hnj := hQ.le j hlt
      have hlej := hle j hj
      obtain ⟨bt, ot, la, lc, rfl, _, hbt, t0, t1, t2, t3, t4, hlg, _⟩ := hT j hlt
      obtain ⟨bp, op, lp, lpc, rfl, _, hbp, p0, hin, _⟩ := hP j hlt
      have y2 := cellLater hB x2
      have d0 := cellLater hB t0
      have d1 := cellLater hB t1
      have d2 := cellLater hB t2
      have d3 := cellLater hB t3
      have d4 := cellLater hB t4
      have p1 := cellLater hB p0
      have hA1 := b1 wr (.cells #[.int .i64 (f j).frm, .int .i64 (f j).ready, .int .i64 (f j).due, .int .i64 (f j).weight, .slice la (f j).nl lc] 72)
      have hTb := Go.heap_alloc_new wr (.cells #[.int .i64 (f j).frm, .int .i64 (f j).ready, .int .i64 (f j).due, .int .i64 (f j).weight, .slice la (f j).nl lc] 72)
      go_wp2
      refine nameW fun V hV => ?_
      rw [← hV] at hA1 hTb
      have e4 := cell_of_row V wr.heap.size 4 _ _ _ hTb
      simp at e4
      have hBV := Below.join hB (Nat.le_refl _) hA1
      generalize wr.heap.size = pb at e4 ⊢
      clear hV hTb y2 d0 d1 d2 d3 d4 p1 hA1 hB t0 t1 t2 t3 t4
      go_loopw [7, 33] (fun cc mm wr2 => ∃ (m : Nat), m ≤ (P j).n ∧ mm = .int .i64 m ∧ cc = .int .i64 ((thereAll f P s t j + thereRow f P s t j m : Nat) : Int) ∧ Below V.heap.size V wr2) (fun _ mm _ => (P j).n - (intOf mm).toNat)
      case atStart => exact ⟨0, Nat.zero_le _, rfl, rfl, Below.refl _ _⟩
      case round =>
        obtain ⟨m, hm, rfl, rfl, hB2⟩ := hrel
        by_cases hmlt : m < (P j).n
        · have hm' : (m : Int) < ((P j).n : Int) := by omega
          have hm0 : (0 : Int) ≤ (m : Int) := by omega
          have hml : (m : Int) < ((f j).nl : Int) := by omega
          have hBw := Below.join hBV (Nat.le_refl _) hB2
          obtain ⟨bl, ol, rfl, _, hbl, g0, g1, g2⟩ := hlg m (by omega)
          obtain ⟨bi, oi, rfl, _, hbi, q0⟩ := hin m hmlt
          replace g0 := cellLater hBw g0
          replace g1 := cellLater hBw g1
          replace q0 := cellLater hBw q0
          have e4' := cellLater hB2 e4
          have hrle := thereRow_le f P s t j m
          obtain ⟨s0, s1⟩ := hQ.at0 j hlt m hmlt
          have hl1 := hQ.l1
          obtain ⟨r0, r1, r2, r3⟩ := hRj.leg m (by omega)
          have hstep : thereAll f P s t j + thereRow f P s t j (m + 1) = thereAll f P s t j + thereRow f P s t j m + (if hereB f P s t j m = true then 1 else 0) := by simp only [thereRow]; omega
          have hst : Hid _ := hstep
          clear hstep
          have hNb : thereAll f P s t j + thereRow f P s t j m ≤ 60 := by omega
          generalize thereAll f P s t j + thereRow f P s t j m = N at hst hNb ⊢
          by_cases hs : ((f j).leg m).to = s
          · have hs' : (((f j).leg m).to != s) = false := by simpa using hs
            by_cases hm1 : m + 1 < (P j).n
            · have hm1' : (m : Int) + 1 < ((P j).n : Int) := by omega
              have hn1 : (0 : Int) ≤ (m : Int) + 1 := by omega
              have hn2 : ((m : Int) + 1).toNat = m + 1 := by omega
              have hw1 : IntKind.i64.wrap ((m : Int) + 1) = (m : Int) + 1 := by rw [IntKind.wrap_i64]; omega
              obtain ⟨bi', oi', ei, _, _, q1⟩ := hin (m + 1) hm1
              simp only [Option.some.injEq, Addr.mk.injEq] at ei
              obtain ⟨rfl, rfl, _⟩ := ei
              replace q1 := cellLater hBw q1
              by_cases ht : t ≤ (P j).s (m + 1)
              · have hh : Hid (hereB f P s t j m = true) := by unfold Hid; rw [hereB_next hs hm1]; exact decide_eq_true ht
                go_wp2
                go_roundw
                case rel => exact ⟨m + 1, by omega, by go_num, by rw [hst.out, hh.out]; go_num, hB2⟩
                case measure => simp [intOf]; omega
              · have hh : Hid (hereB f P s t j m = false) := by unfold Hid; rw [hereB_next hs hm1]; exact decide_eq_false ht
                go_wp2
                go_roundw
                case rel => exact ⟨m + 1, by omega, by go_num, by rw [hst.out, hh.out]; simp, hB2⟩
                case measure => simp [intOf]; omega
            · have hm1' : ¬ ((m : Int) + 1 < ((P j).n : Int)) := by omega
              by_cases hmn : m + 1 < (f j).nl
              · have hmn' : (m : Int) + 1 < ((f j).nl : Int) := by omega
                have hmd : decide ((m : Int) + 1 < ((f j).nl : Int)) = true := decide_eq_true hmn'
                have hh : Hid _ := hereB_ever (t := t) hs hm1 hmn
                go_wp2
                go_quiet (fail)
                go_wp2
                go_roundw
                case rel => exact ⟨m + 1, by omega, by go_num, by rw [hst.out, hh.out]; go_num, Below.join hB2 (Nat.le_refl _) (below_drewN (Below.refl _ _) _)⟩
                case measure => simp [intOf]; omega
              · have hmn' : ¬ ((m : Int) + 1 < ((f j).nl : Int)) := by omega
                have hmd : decide ((m : Int) + 1 < ((f j).nl : Int)) = false := decide_eq_false hmn'
                have hws : IntKind.i64.wrap ((P j).s m + ((f j).leg m).run) = (P j).s m + ((f j).leg m).run := by rw [IntKind.wrap_i64]; omega
                by_cases ht : t ≤ (P j).s m + ((f j).leg m).run
                · have hh : Hid (hereB f P s t j m = true) := by unfold Hid; rw [hereB_end hs hm1 hmn]; exact decide_eq_true ht
                  go_wp2
                  go_quiet (fail)
                  go_wp2
                  go_roundw
                  case rel => exact ⟨m + 1, by omega, by go_num, by rw [hst.out, hh.out]; go_num, Below.join hB2 (Nat.le_refl _) (below_drewN (Below.refl _ _) _)⟩
                  case measure => simp [intOf]; omega
                · have hh : Hid (hereB f P s t j m = false) := by unfold Hid; rw [hereB_end hs hm1 hmn]; exact decide_eq_false ht
                  go_wp2
                  go_quiet (fail)
                  go_wp2
                  go_roundw
                  case rel => exact ⟨m + 1, by omega, by go_num, by rw [hst.out, hh.out]; simp, Below.join hB2 (Nat.le_refl _) (below_drewN (Below.refl _ _) _)⟩
                  case measure => simp [intOf]; omega
          · have hs' : (((f j).leg m).to != s) = true := by simpa using hs
            have hh : Hid _ := hereB_no (P := P) (t := t) hs
            go_wp2
            go_roundw
            case rel => exact ⟨m + 1, by omega, by go_num, by rw [hst.out, hh.out]; simp, hB2⟩
            case measure => simp [intOf]; omega
        · obtain rfl : m = (P j).n := by omega
          go_wp2
          go_roundw
          case rel => exact ⟨j + 1, by omega, by go_num, by simp only [thereAll], Below.join hBV (Nat.le_refl _) hB2⟩
          case measure => simp [intOf]; omega
    · obtain rfl : j = np := by omega
      go_wp2
      go_ret
      exact ⟨rfl, hB⟩
end Go.Proofs.YtelickcfodcmaaaGreatDoor
