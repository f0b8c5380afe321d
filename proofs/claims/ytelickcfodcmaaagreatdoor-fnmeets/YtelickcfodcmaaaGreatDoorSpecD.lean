/-
  The model's Check over a right line and a plan of its shape.
-/
import Derived.Test.YtelickcfodcmaaaGreatDoorSpecC
import Derived.Test.YtelickcfodcmaaaGreatDoorSmall
import Derived.Test.YtelickcfodcmaaaGreatDoorPlainH
namespace Go.Proofs.YtelickcfodcmaaaGreatDoor
open Go.RowKit

set_option maxRecDepth 20000 in
set_option maxHeartbeats 16000000 in
theorem specCheck_main (a : Option Addr) (len cap : Nat) (g : Nat → Int) (gap : Int) (a' : Option Addr) (len' cap' : Nat) (f : Nat → TrainD) (c : Option Addr) (np nc : Nat) (P : Nat → RowD) (w : World)
    (hl : len ≤ 1048576) (hl' : len' ≤ 1048576) (hml : ∀ j, j < len' → (f j).nl ≤ 1048576) (hp : np ≤ 1048576) (hmp : ∀ j, j < np → (P j).n ≤ 1048576) (hI : IsInts 0 w.heap.size w a len g) (hT : IsTrains 0 w.heap.size w a' len' f) (hP : IsRows 0 w.heap.size w c np P)
    (hF : Hid (faultOf len g gap len' f = (0, 0))) (hS : shapeB len' f np P = true) (v : Int × Int × Int × Int) (hv : Hid (clashOf len g gap len' f np P = v)) :
    Calls Tryz.prog 8 #[.agg #[.slice a len cap, .int .i64 gap, .slice a' len' cap'], .agg #[.slice c np nc]] w fun e w' => e = .returned (.agg #[.int .i64 v.1, .int .i64 v.2.1, .int .i64 v.2.2.1, .int .i64 v.2.2.2]) ∧ Below w.heap.size w w' := by
  have hX0 := Boxes.new w a len cap gap a' len' cap' c np nc 26 30 33
  have hR := rightL_of hF.out
  have hQ := rightP_of hS
  have htr := hR.tr
  go_enter Tryz.func8, Tryz.ntmps8
  go_wp2_with (first | (go_at_call 29; refine (l1ok_yes _ _ _ g _ _ _ _ f _ hl hl' hml (hI.grow (b3 _ _ _ _)) (hT.grow (b3 _ _ _ _)) hF).mono ?_; rintro _ w2 ⟨rfl, hB2⟩; have hBx := Below.join (b3 w _ _ _) (Nat.le_refl _) hB2; replace hX0 := hX0.later hB2; have x0 := hX0.l0; have x1 := hX0.l1; have x2 := hX0.l2; have y0 := hX0.p0) | (go_at_call 30; refine (l2shape_any _ _ _ _ _ _ _ f _ _ _ P _ hl' hp hml hmp (hT.grow hBx) (hP.grow hBx)).mono ?_; rw [hS]; rintro _ w3 ⟨rfl, hB3⟩; replace hBx := Below.join hBx (Nat.le_refl _) hB3; replace hX0 := hX0.later hB3; clear x0 x1 x2 y0; have x2 := hX0.l2; have y0 := hX0.p0))
  clear x2 y0
  obtain rfl : np = len' := hQ.np
  go_loopw [29] (fun ii wr => ∃ (i : Nat), i ≤ np ∧ ii = .int .i64 i ∧ (∀ j, j < i → ∀ m, m < (f j).nl → readyOf f P j m ≤ (P j).s m) ∧ Boxes w wr a len cap gap a' np cap' c np nc ∧ Below w.heap.size w wr) (fun ii _ => np - (intOf ii).toNat)
  case atStart => exact ⟨0, Nat.zero_le _, rfl, fun _ h => by omega, hX0, hBx⟩
  case round =>
    obtain ⟨i, hi, rfl, hall, hX, hB⟩ := hrel
    have x0 := hX.l0
    have x1 := hX.l1
    have x2 := hX.l2
    have y0 := hX.p0
    by_cases hlt : i < np
    · obtain ⟨bp, op, lp, lpc, rfl, _, hbp, p0, hin, _⟩ := (hP.below hB (Nat.le_refl _)) i hlt
      rw [hQ.row i hlt] at p0 hin
      have hni := (hR.train i hlt).nl
      have hin' : (i : Int) < (np : Int) := by omega
      go_wp2
      clear x0 x1 x2 y0
      go_loopw [38] (fun kk wr2 => ∃ (k : Nat), k ≤ (f i).nl ∧ kk = .int .i64 k ∧ (∀ m, m < k → readyOf f P i m ≤ (P i).s m) ∧ Boxes w wr2 a len cap gap a' np cap' (some ⟨bp, op, none⟩) np nc ∧ Below w.heap.size w wr2 ∧ IsInts 0 w.heap.size wr2 lp (f i).nl (P i).s) (fun kk _ => (f i).nl - (intOf kk).toNat)
      case atStart => exact ⟨0, Nat.zero_le _, rfl, fun _ h => by omega, hX, hB, hin⟩
      case round =>
        clear hX hB hin p0
        obtain ⟨k, hk, rfl, hall2, hX, hB, hin⟩ := hrel
        have x0 := hX.l0
        have x1 := hX.l1
        have x2 := hX.l2
        have y0 := hX.p0
        by_cases hlt2 : k < (f i).nl
        · obtain ⟨bi, oi, rfl, _, hbi, q0⟩ := hin k hlt2
          have hkn : (k : Int) < ((f i).nl : Int) := by omega
          by_cases hbad : (P i).s k < readyOf f P i k
          · go_wp2_with (go_at_call 31; refine (l2ready_any _ _ _ _ _ _ _ f _ _ _ P i k _ hR hQ hlt hlt2 (hT.grow hB) (hP.grow hB)).mono ?_; rintro _ w4 ⟨rfl, hB4⟩; replace hX := hX.later hB4; have r0 := hX.r0; have r1 := hX.r1; have r2 := hX.r2; have r3 := hX.r3; have z0 := hX.z0; have z1 := hX.z1; have z2 := hX.z2; have z3 := hX.z3; replace hB := Below.join hB (Nat.le_refl _) hB4)
            have hve := hv.out.symm.trans (clashOf_two hF.out hS hlt hlt2 hbad hall2 hall)
            refine bodyPost_ret (v := .agg #[.int .i64 2, .int .i64 i, .int .i64 k, .int .i64 0]) (by simp [results, Tryz.results8, go_sem, r0, r1, r2, r3]) rfl ⟨by rw [hve], ?_⟩
            exact ((((hB.setCell (p := ⟨w.heap.size + 1 + 1, _, none⟩) (by simp; omega) _).setCell (p := ⟨w.heap.size + 1 + 1, _, none⟩) (by simp; omega) _).setCell (p := ⟨w.heap.size + 1 + 1, _, none⟩) (by simp; omega) _).setCell (p := ⟨w.heap.size + 1 + 1, _, none⟩) (by simp; omega) _)
          · go_wp2_with (go_at_call 31; refine (l2ready_any _ _ _ _ _ _ _ f _ _ _ P i k _ hR hQ hlt hlt2 (hT.grow hB) (hP.grow hB)).mono ?_; rintro _ w4 ⟨rfl, hB4⟩)
            go_roundw
            case rel => exact ⟨k + 1, by omega, by go_num, fun m hm => (by by_cases e : m = k; (· subst e; omega); (· exact hall2 m (by omega))), hX.later hB4, Below.join hB (Nat.le_refl _) hB4, hin.below hB4 hB.size⟩
            case measure => simp [intOf]; omega
        · have hke : Hid (k = (f i).nl) := (by omega : k = (f i).nl)
          have hkn : ((f i).nl : Int) ≤ (k : Int) := by omega
          clear hlt2 hk
          go_wp2
          go_roundw
          case rel => exact ⟨i + 1, by omega, by go_num, fun j hj => (by by_cases e : j = i; (· subst e; intro m hm; exact hall2 m (by rw [hke.out]; exact hm)); (· exact hall j (by omega))), hX, hB⟩
          case measure => simp [intOf]; omega
    · have hie : Hid (i = np) := (by omega : i = np)
      have hin' : (np : Int) ≤ (i : Int) := by omega
      have h2 : ∀ j, j < np → ∀ m, m < (f j).nl → readyOf f P j m ≤ (P j).s m := by rw [← hie.out]; exact hall
      clear hall hie
      go_wp2
      clear x0 x1 x2 y0 hlt hi
      go_loopw [58] (fun ii wr => ∃ (i : Nat), i ≤ np ∧ ii = .int .i64 i ∧ (∀ j, j < i → ∀ m, m < (f j).nl → withOf gap np f P j m = none) ∧ Boxes w wr a len cap gap a' np cap' c np nc ∧ Below w.heap.size w wr) (fun ii _ => np - (intOf ii).toNat)
      case atStart => exact ⟨0, Nat.zero_le _, rfl, fun _ h => by omega, hX, hB⟩
      case round =>
        clear hX hB hin'
        obtain ⟨i, hi, rfl, hall, hX, hB⟩ := hrel
        have y0 := hX.p0
        by_cases hlt : i < np
        · obtain ⟨bp, op, lp, lpc, rfl, _, hbp, p0, hinw, _⟩ := hP i hlt
          rw [hQ.row i hlt] at p0 hinw
          replace p0 := cellLater hB p0
          have hin := hinw.below hB (Nat.le_refl _)
          have hni := (hR.train i hlt).nl
          have hin' : (i : Int) < (np : Int) := by omega
          go_wp2
          clear y0
          go_loopw [67] (fun kk wr2 => ∃ (k : Nat), k ≤ (f i).nl ∧ kk = .int .i64 k ∧ (∀ m, m < k → withOf gap np f P i m = none) ∧ Boxes w wr2 a len cap gap a' np cap' (some ⟨bp, op, none⟩) np nc ∧ Below w.heap.size w wr2 ∧ IsInts 0 w.heap.size wr2 lp (f i).nl (P i).s) (fun kk _ => (f i).nl - (intOf kk).toNat)
          case atStart => exact ⟨0, Nat.zero_le _, rfl, fun _ h => by omega, hX, hB, hin⟩
          case round =>
            clear hX hB hin p0
            obtain ⟨k, hk, rfl, hall2, hX, hB, hin⟩ := hrel
            have y0 := hX.p0
            by_cases hlt2 : k < (f i).nl
            · obtain ⟨bi, oi, rfl, _, hbi, q0⟩ := hin k hlt2
              have hkn : (k : Int) < ((f i).nl : Int) := by omega
              go_wp2
              clear y0 q0
              go_loopw [75] (fun jj wr3 => ∃ (j : Nat), j ≤ np ∧ jj = .int .i64 j ∧ (∀ q, q < j → ∀ m, m < (f q).nl → onB gap f P i k q m = false) ∧ Boxes w wr3 a len cap gap a' np cap' (some ⟨bp, op, none⟩) np nc ∧ Below w.heap.size w wr3) (fun jj _ => np - (intOf jj).toNat)
              case atStart => exact ⟨0, Nat.zero_le _, rfl, fun _ h => by omega, hX, hB⟩
              case round =>
                clear hX hB
                obtain ⟨j, hj, rfl, hall3, hX, hB⟩ := hrel
                have y0 := hX.p0
                by_cases hlt3 : j < np
                · obtain ⟨bp', op', lq, lqc, ep, _, hbq, pj, hinj, _⟩ := (hP.below hB (Nat.le_refl _)) j hlt3
                  simp only [Option.some.injEq, Addr.mk.injEq] at ep
                  obtain ⟨rfl, rfl, _⟩ := ep
                  rw [hQ.row j hlt3] at pj hinj
                  have hnj := (hR.train j hlt3).nl
                  have hjn : (j : Int) < (np : Int) := by omega
                  go_wp2
                  clear y0 pj
                  go_loopw [84] (fun mm wr4 => ∃ (m : Nat), m ≤ (f j).nl ∧ mm = .int .i64 m ∧ (∀ q, q < m → onB gap f P i k j q = false) ∧ Boxes w wr4 a len cap gap a' np cap' (some ⟨bp, op, none⟩) np nc ∧ Below w.heap.size w wr4 ∧ IsInts 0 w.heap.size wr4 lq (f j).nl (P j).s) (fun mm _ => (f j).nl - (intOf mm).toNat)
                  case atStart => exact ⟨0, Nat.zero_le _, rfl, fun _ h => by omega, hX, hB, hinj⟩
                  case round =>
                    clear hX hB hinj
                    obtain ⟨m, hm, rfl, hall4, hX, hB, hinj⟩ := hrel
                    by_cases hlt4 : m < (f j).nl
                    · obtain ⟨bj, oj, rfl, _, hbj, qj⟩ := hinj m hlt4
                      have hmn : (m : Int) < ((f j).nl : Int) := by omega
                      by_cases hij : i = j
                      · subst hij
                        have hbe : ((i : Int) == (i : Int)) = true := by simp
                        have hon : onB gap f P i k i m = false := decide_eq_false (fun h => h.1 rfl)
                        go_wp2
                        go_quiet (fail)
                        go_wp2
                        go_roundw
                        case rel => exact ⟨m + 1, by omega, by go_num, fun q hq => (by by_cases e : q = m; (· subst e; exact hon); (· exact hall4 q (by omega))), hX.later (below_drewN (Below.refl _ _) _), below_drewN hB _, hinj⟩
                        case measure => simp [intOf]; omega
                      · have hbe : ((i : Int) == (j : Int)) = false := by simp; omega
                        obtain ⟨b, off, la, lc, rfl, _, hb, t0, t1, t2, t3, t4, hlg, _⟩ := hT i hlt
                        obtain ⟨b', off', la', lc', ep, _, hb', t0', t1', t2', t3', t4', hlg', _⟩ := hT j hlt3
                        simp only [Option.some.injEq, Addr.mk.injEq] at ep
                        obtain ⟨rfl, rfl, _⟩ := ep
                        obtain ⟨lj0, lj1, lj2, lj3⟩ := (hR.train j hlt3).leg m hlt4
                        obtain ⟨sj0, sj1⟩ := hQ.at0 j hlt3 m hlt4
                        obtain ⟨si0, si1⟩ := hQ.at0 i hlt k hlt2
                        obtain ⟨bl, ol, rfl, _, hbl, _, g1, _⟩ := hlg' m hlt4
                        have hi0 : (0 : Int) ≤ (i : Int) := by omega
                        have hj0 : (0 : Int) ≤ (j : Int) := by omega
                        have hm0 : (0 : Int) ≤ (m : Int) := by omega
                        replace t0 := cellLater hB t0
                        replace t1 := cellLater hB t1
                        replace t2 := cellLater hB t2
                        replace t3 := cellLater hB t3
                        replace t4 := cellLater hB t4
                        replace t0' := cellLater hB t0'
                        replace t1' := cellLater hB t1'
                        replace t2' := cellLater hB t2'
                        replace t3' := cellLater hB t3'
                        replace t4' := cellLater hB t4'
                        replace g1 := cellLater hB g1
                        replace hlg := hlg.grow hB.drew
                        replace hlg' := hlg'.grow hB.drew
                        have x2 := hX.l2
                        have hG := rightG_of hF.out
                        have hg0 := hG.g0
                        have hg1 := hG.g1
                        have hSS : ∀ V : World, Below wr.heap.size wr V → V.cell? ⟨w.heap.size, 2, none⟩ = some (.slice (some ⟨b, off, none⟩) np cap') ∧ V.cell? ⟨b, off + i * 5, none⟩ = some (.int .i64 (f i).frm) ∧ V.cell? ⟨b, off + i * 5 + 1, none⟩ = some (.int .i64 (f i).ready) ∧ V.cell? ⟨b, off + i * 5 + 2, none⟩ = some (.int .i64 (f i).due) ∧ V.cell? ⟨b, off + i * 5 + 3, none⟩ = some (.int .i64 (f i).weight) ∧ V.cell? ⟨b, off + i * 5 + 4, none⟩ = some (.slice la (f i).nl lc) ∧ V.cell? ⟨b, off + j * 5, none⟩ = some (.int .i64 (f j).frm) ∧ V.cell? ⟨b, off + j * 5 + 1, none⟩ = some (.int .i64 (f j).ready) ∧ V.cell? ⟨b, off + j * 5 + 2, none⟩ = some (.int .i64 (f j).due) ∧ V.cell? ⟨b, off + j * 5 + 3, none⟩ = some (.int .i64 (f j).weight) ∧ V.cell? ⟨b, off + j * 5 + 4, none⟩ = some (.slice (some ⟨bl, ol, none⟩) (f j).nl lc') := fun V hV => ⟨cellLater hV x2, cellLater hV t0, cellLater hV t1, cellLater hV t2, cellLater hV t3, cellLater hV t4, cellLater hV t0', cellLater hV t1', cellLater hV t2', cellLater hV t3', cellLater hV t4'⟩
                        have hD0 : Below wr.heap.size wr wr.drew := (Below.refl _ _).drew
                        have hS0 := hSS _ hD0
                        by_cases htk0 : trackOf (f i) k = trackOf (f j) m
                        · have hnt : (trackOf (f i) k != trackOf (f j) m) = false := by simp [htk0]
                          have hw1 : IntKind.i64.wrap ((P j).s m + ((f j).leg m).run) = (P j).s m + ((f j).leg m).run := by rw [IntKind.wrap_i64]; omega
                          have hw2 : IntKind.i64.wrap ((P j).s m + ((f j).leg m).run + gap) = (P j).s m + ((f j).leg m).run + gap := by rw [IntKind.wrap_i64]; omega
                          have htk : Hid (trackOf (f i) k = trackOf (f j) m) := htk0
                          clear htk0
                          by_cases hgt : (P i).s k < (P j).s m
                          · have hon : onB gap f P i k j m = false := decide_eq_false (fun h => by have := h.2.2.1; omega)
                            have hgd : decide ((P i).s k < (P j).s m) = true := decide_eq_true hgt
                            go_wp2
                            refine wp_region_held_drew (S := (fun w' => w'.cell? ⟨w.heap.size, 2, none⟩ = some (.slice (some ⟨b, off, none⟩) np cap') ∧ w'.cell? ⟨b, off + i * 5, none⟩ = some (.int .i64 (f i).frm) ∧ w'.cell? ⟨b, off + i * 5 + 1, none⟩ = some (.int .i64 (f i).ready) ∧ w'.cell? ⟨b, off + i * 5 + 2, none⟩ = some (.int .i64 (f i).due) ∧ w'.cell? ⟨b, off + i * 5 + 3, none⟩ = some (.int .i64 (f i).weight) ∧ w'.cell? ⟨b, off + i * 5 + 4, none⟩ = some (.slice la (f i).nl lc) ∧ w'.cell? ⟨b, off + j * 5, none⟩ = some (.int .i64 (f j).frm) ∧ w'.cell? ⟨b, off + j * 5 + 1, none⟩ = some (.int .i64 (f j).ready) ∧ w'.cell? ⟨b, off + j * 5 + 2, none⟩ = some (.int .i64 (f j).due) ∧ w'.cell? ⟨b, off + j * 5 + 3, none⟩ = some (.int .i64 (f j).weight) ∧ w'.cell? ⟨b, off + j * 5 + 4, none⟩ = some (.slice (some ⟨bl, ol, none⟩) (f j).nl lc'))) (by kernel_rfl) hS0 (fun hHeld => ?_)
                            refine wpAnyH_take (i := 0) (oi := { dst := some 89, op := Go.Op.move (Go.Operand.tmp 8), type := 3, pos := "l2_plan.go:91", after := #[], guard := none }) (v := ?vvb0) rfl (by kernel_rfl) (by kernel_rfl) (by kernel_rfl) (fun _ _ _ h => h) (Or.inl ⟨by rfl, ?hyb0⟩) (by assumption) ?restb0
                            case hyb0 =>
                              intro w hSw
                              (try dsimp only at hSw)
                              go_simp
                              (try with_reducible rfl)
                            simp only [Act.put, List.setIfInBounds_toArray, List.set_cons_zero, List.set_cons_succ]
                            refine wpAnyH_take (i := 1) (oi := { dst := some 90, op := Go.Op.move (Go.Operand.tmp 11), type := 3, pos := "l2_plan.go:91", after := #[], guard := none }) (v := ?vvb1) rfl (by kernel_rfl) (by kernel_rfl) (by kernel_rfl) (fun _ _ _ h => h) (Or.inl ⟨by rfl, ?hyb1⟩) (by assumption) ?restb1
                            case hyb1 =>
                              intro w hSw
                              (try dsimp only at hSw)
                              go_simp
                              (try with_reducible rfl)
                            simp only [Act.put, List.setIfInBounds_toArray, List.set_cons_zero, List.set_cons_succ]
                            refine wpAnyH_take (i := 2) (oi := { dst := some 91, op := Go.Op.binOp Go.BinOp.eql 3 (Go.Operand.tmp 89) (Go.Operand.tmp 90) 3, type := 4, pos := "l2_plan.go:91", after := #[{ on := 0, ground := Go.Ground.data }, { on := 1, ground := Go.Ground.data }], guard := none }) (v := ?vvb2) rfl (by kernel_rfl) (by kernel_rfl) (by kernel_rfl) (fun _ _ _ h => h) (Or.inl ⟨by rfl, ?hyb2⟩) (by assumption) ?restb2
                            case hyb2 =>
                              intro w hSw
                              (try dsimp only at hSw)
                              go_simp
                              (try with_reducible rfl)
                            simp only [Act.put, List.setIfInBounds_toArray, List.set_cons_zero, List.set_cons_succ]
                            refine wpAnyH_take (i := 3) (oi := { dst := some 92, op := Go.Op.move (Go.Operand.tmp 91), type := 4, pos := "l2_plan.go:91", after := #[{ on := 2, ground := Go.Ground.data }], guard := none }) (v := ?vvb3) rfl (by kernel_rfl) (by kernel_rfl) (by kernel_rfl) (fun _ _ _ h => h) (Or.inl ⟨by rfl, ?hyb3⟩) (by assumption) ?restb3
                            case hyb3 =>
                              intro w hSw
                              (try dsimp only at hSw)
                              go_simp
                              (try with_reducible rfl)
                            simp only [Act.put, List.setIfInBounds_toArray, List.set_cons_zero, List.set_cons_succ]
                            refine wpAnyH_take (i := 4) (oi := { dst := some 93, op := Go.Op.fieldAddr 26 (Go.Operand.tmp 2) 2, type := 0, pos := "l2_plan.go:91", after := #[{ on := 3, ground := Go.Ground.guard }], guard := some (3, false) }) (v := ?vvb4) rfl (by kernel_rfl) (by kernel_rfl) (by kernel_rfl) (fun _ _ _ h => h) (Or.inl ⟨by rfl, ?hyb4⟩) (by assumption) ?restb4
                            case hyb4 =>
                              intro w hSw
                              (try dsimp only at hSw)
                              go_simp
                              (try with_reducible rfl)
                            simp only [Act.put, List.setIfInBounds_toArray, List.set_cons_zero, List.set_cons_succ]
                            refine wpAnyH_take (i := 5) (oi := { dst := some 94, op := Go.Op.load 24 (Go.Operand.tmp 93), type := 24, pos := "l2_plan.go:91", after := #[{ on := 4, ground := Go.Ground.data }, { on := 3, ground := Go.Ground.guard }], guard := some (3, false) }) (v := ?vvb5) rfl (by kernel_rfl) (by kernel_rfl) (by kernel_rfl) (fun _ _ _ h => h) (Or.inl ⟨by rfl, ?hyb5⟩) (by assumption) ?restb5
                            case hyb5 =>
                              intro w hSw
                              (try dsimp only at hSw)
                              go_simp
                              (try with_reducible rfl)
                            simp only [Act.put, List.setIfInBounds_toArray, List.set_cons_zero, List.set_cons_succ]
                            refine wpAnyH_take (i := 6) (oi := { dst := some 95, op := Go.Op.move (Go.Operand.tmp 8), type := 3, pos := "l2_plan.go:91", after := #[{ on := 3, ground := Go.Ground.guard }], guard := some (3, false) }) (v := ?vvb6) rfl (by kernel_rfl) (by kernel_rfl) (by kernel_rfl) (fun _ _ _ h => h) (Or.inl ⟨by rfl, ?hyb6⟩) (by assumption) ?restb6
                            case hyb6 =>
                              intro w hSw
                              (try dsimp only at hSw)
                              go_simp
                              (try with_reducible rfl)
                            simp only [Act.put, List.setIfInBounds_toArray, List.set_cons_zero, List.set_cons_succ]
                            refine wpAnyH_take (i := 7) (oi := { dst := some 96, op := Go.Op.indexAddr 24 (Go.Operand.tmp 94) (Go.Operand.tmp 95), type := 0, pos := "l2_plan.go:91", after := #[{ on := 5, ground := Go.Ground.data }, { on := 6, ground := Go.Ground.data }, { on := 3, ground := Go.Ground.guard }], guard := some (3, false) }) (v := ?vvb7) rfl (by kernel_rfl) (by kernel_rfl) (by kernel_rfl) (fun _ _ _ h => h) (Or.inl ⟨by rfl, ?hyb7⟩) (by assumption) ?restb7
                            case hyb7 =>
                              intro w hSw
                              (try dsimp only at hSw)
                              go_simp
                              (try with_reducible rfl)
                            simp only [Act.put, List.setIfInBounds_toArray, List.set_cons_zero, List.set_cons_succ]
                            refine wpAnyH_take (i := 8) (oi := { dst := some 97, op := Go.Op.load 72 (Go.Operand.tmp 96), type := 72, pos := "l2_plan.go:91", after := #[{ on := 7, ground := Go.Ground.data }, { on := 3, ground := Go.Ground.guard }], guard := some (3, false) }) (v := ?vvb8) rfl (by kernel_rfl) (by kernel_rfl) (by kernel_rfl) (fun _ _ _ h => h) (Or.inl ⟨by rfl, ?hyb8⟩) (by assumption) ?restb8
                            case hyb8 =>
                              intro w hSw
                              (try dsimp only at hSw)
                              go_simp
                              (try with_reducible rfl)
                            simp only [Act.put, List.setIfInBounds_toArray, List.set_cons_zero, List.set_cons_succ]
                            refine wpAnyH_take (i := 9) (oi := { dst := some 98, op := Go.Op.move (Go.Operand.tmp 9), type := 3, pos := "l2_plan.go:91", after := #[{ on := 3, ground := Go.Ground.guard }], guard := some (3, false) }) (v := ?vvb9) rfl (by kernel_rfl) (by kernel_rfl) (by kernel_rfl) (fun _ _ _ h => h) (Or.inl ⟨by rfl, ?hyb9⟩) (by assumption) ?restb9
                            case hyb9 =>
                              intro w hSw
                              (try dsimp only at hSw)
                              go_simp
                              (try with_reducible rfl)
                            simp only [Act.put, List.setIfInBounds_toArray, List.set_cons_zero, List.set_cons_succ]
                            refine wpAnyH_take (i := 11) (oi := { dst := some 100, op := Go.Op.fieldAddr 26 (Go.Operand.tmp 2) 2, type := 0, pos := "l2_plan.go:91", after := #[{ on := 3, ground := Go.Ground.guard }], guard := some (3, false) }) (v := ?vvb11) rfl (by kernel_rfl) (by kernel_rfl) (by kernel_rfl) (fun _ _ _ h => h) (Or.inl ⟨by rfl, ?hyb11⟩) (by assumption) ?restb11
                            case hyb11 =>
                              intro w hSw
                              (try dsimp only at hSw)
                              go_simp
                              (try with_reducible rfl)
                            simp only [Act.put, List.setIfInBounds_toArray, List.set_cons_zero, List.set_cons_succ]
                            refine wpAnyH_take (i := 12) (oi := { dst := some 101, op := Go.Op.load 24 (Go.Operand.tmp 100), type := 24, pos := "l2_plan.go:91", after := #[{ on := 11, ground := Go.Ground.data }, { on := 3, ground := Go.Ground.guard }], guard := some (3, false) }) (v := ?vvb12) rfl (by kernel_rfl) (by kernel_rfl) (by kernel_rfl) (fun _ _ _ h => h) (Or.inl ⟨by rfl, ?hyb12⟩) (by assumption) ?restb12
                            case hyb12 =>
                              intro w hSw
                              (try dsimp only at hSw)
                              go_simp
                              (try with_reducible rfl)
                            simp only [Act.put, List.setIfInBounds_toArray, List.set_cons_zero, List.set_cons_succ]
                            refine wpAnyH_take (i := 13) (oi := { dst := some 102, op := Go.Op.move (Go.Operand.tmp 11), type := 3, pos := "l2_plan.go:91", after := #[{ on := 3, ground := Go.Ground.guard }], guard := some (3, false) }) (v := ?vvb13) rfl (by kernel_rfl) (by kernel_rfl) (by kernel_rfl) (fun _ _ _ h => h) (Or.inl ⟨by rfl, ?hyb13⟩) (by assumption) ?restb13
                            case hyb13 =>
                              intro w hSw
                              (try dsimp only at hSw)
                              go_simp
                              (try with_reducible rfl)
                            simp only [Act.put, List.setIfInBounds_toArray, List.set_cons_zero, List.set_cons_succ]
                            refine wpAnyH_take (i := 14) (oi := { dst := some 103, op := Go.Op.indexAddr 24 (Go.Operand.tmp 101) (Go.Operand.tmp 102), type := 0, pos := "l2_plan.go:91", after := #[{ on := 12, ground := Go.Ground.data }, { on := 13, ground := Go.Ground.data }, { on := 3, ground := Go.Ground.guard }], guard := some (3, false) }) (v := ?vvb14) rfl (by kernel_rfl) (by kernel_rfl) (by kernel_rfl) (fun _ _ _ h => h) (Or.inl ⟨by rfl, ?hyb14⟩) (by assumption) ?restb14
                            case hyb14 =>
                              intro w hSw
                              (try dsimp only at hSw)
                              go_simp
                              (try with_reducible rfl)
                            simp only [Act.put, List.setIfInBounds_toArray, List.set_cons_zero, List.set_cons_succ]
                            refine wpAnyH_take (i := 15) (oi := { dst := some 104, op := Go.Op.load 72 (Go.Operand.tmp 103), type := 72, pos := "l2_plan.go:91", after := #[{ on := 14, ground := Go.Ground.data }, { on := 3, ground := Go.Ground.guard }], guard := some (3, false) }) (v := ?vvb15) rfl (by kernel_rfl) (by kernel_rfl) (by kernel_rfl) (fun _ _ _ h => h) (Or.inl ⟨by rfl, ?hyb15⟩) (by assumption) ?restb15
                            case hyb15 =>
                              intro w hSw
                              (try dsimp only at hSw)
                              go_simp
                              (try with_reducible rfl)
                            simp only [Act.put, List.setIfInBounds_toArray, List.set_cons_zero, List.set_cons_succ]
                            refine wpAnyH_take (i := 16) (oi := { dst := some 105, op := Go.Op.move (Go.Operand.tmp 12), type := 3, pos := "l2_plan.go:91", after := #[{ on := 3, ground := Go.Ground.guard }], guard := some (3, false) }) (v := ?vvb16) rfl (by kernel_rfl) (by kernel_rfl) (by kernel_rfl) (fun _ _ _ h => h) (Or.inl ⟨by rfl, ?hyb16⟩) (by assumption) ?restb16
                            case hyb16 =>
                              intro w hSw
                              (try dsimp only at hSw)
                              go_simp
                              (try with_reducible rfl)
                            simp only [Act.put, List.setIfInBounds_toArray, List.set_cons_zero, List.set_cons_succ]
                            refine wpAnyH_ready (rs := [10]) (by kernel_rfl) (by simp) ?_
                            refine AllReadyH.cons (o := { dst := some 99, op := Go.Op.call { callee := Go.Callee.value (Go.Operand.func 32), args := #[Go.Operand.tmp 97, Go.Operand.tmp 98], argTypes := #[72, 3] }, type := 3, pos := "l2_plan.go:91", after := #[{ on := 8, ground := Go.Ground.data }, { on := 9, ground := Go.Ground.data }, { on := 3, ground := Go.Ground.chain }, { on := 3, ground := Go.Ground.guard }], guard := some (3, false) }) rfl (fun K hK => ?_) AllReadyH.nil
                            go_simp
                            refine (l2track_any (f i) k _ _ _ hlt2 hni hlg).mono ?_
                            rintro _ W6 ⟨rfl, hB6⟩
                            replace hlg' := hlg'.grow hB6
                            have hD6 := Below.join hD0 (Nat.le_refl _) hB6
                            refine hK.out _ _ (hSS _ hD6) (fun hHeld => ?_)
                            clear hK K
                            (try simp only [Act.put, List.setIfInBounds_toArray, List.set_cons_zero, List.set_cons_succ])
                            refine wpAnyH_ready (rs := [17]) (by kernel_rfl) (by simp) ?_
                            refine AllReadyH.cons (o := { dst := some 106, op := Go.Op.call { callee := Go.Callee.value (Go.Operand.func 32), args := #[Go.Operand.tmp 104, Go.Operand.tmp 105], argTypes := #[72, 3] }, type := 3, pos := "l2_plan.go:91", after := #[{ on := 15, ground := Go.Ground.data }, { on := 16, ground := Go.Ground.data }, { on := 10, ground := Go.Ground.chain }, { on := 3, ground := Go.Ground.guard }], guard := some (3, false) }) rfl (fun K hK => ?_) AllReadyH.nil
                            go_simp
                            refine (l2track_any (f j) m _ _ _ hlt4 hnj hlg').mono ?_
                            rintro _ W7 ⟨rfl, hB7⟩
                            have hD7 := Below.join hD6 (Nat.le_refl _) hB7
                            refine hK.out _ _ (hSS _ hD7) (fun hHeld => ?_)
                            clear hK K
                            (try simp only [Act.put, List.setIfInBounds_toArray, List.set_cons_zero, List.set_cons_succ])
                            refine wpAnyH_take (i := 18) (oi := { dst := some 107, op := Go.Op.binOp Go.BinOp.neq 3 (Go.Operand.tmp 99) (Go.Operand.tmp 106) 3, type := 4, pos := "l2_plan.go:91", after := #[{ on := 10, ground := Go.Ground.data }, { on := 17, ground := Go.Ground.data }, { on := 3, ground := Go.Ground.guard }], guard := some (3, false) }) (v := ?vvb18) rfl (by kernel_rfl) (by kernel_rfl) (by kernel_rfl) (fun _ _ _ h => h) (Or.inl ⟨by rfl, ?hyb18⟩) (by assumption) ?restb18
                            case hyb18 =>
                              intro w hSw
                              (try dsimp only at hSw)
                              go_simp
                              (try with_reducible rfl)
                            simp only [Act.put, List.setIfInBounds_toArray, List.set_cons_zero, List.set_cons_succ]
                            refine wpAnyH_take (i := 19) (oi := { dst := some 108, op := Go.Op.pick (Go.Operand.tmp 92) (Go.Operand.const (Go.Value.bool true)) (Go.Operand.tmp 107), type := 4, pos := "l2_plan.go:91", after := #[{ on := 3, ground := Go.Ground.data }, { on := 18, ground := Go.Ground.data }], guard := none }) (v := ?vvb19) rfl (by kernel_rfl) (by kernel_rfl) (by kernel_rfl) (fun _ _ _ h => h) (Or.inl ⟨by rfl, ?hyb19⟩) (by assumption) ?restb19
                            case hyb19 =>
                              intro w hSw
                              (try dsimp only at hSw)
                              go_simp
                              (try with_reducible rfl)
                            simp only [Act.put, List.setIfInBounds_toArray, List.set_cons_zero, List.set_cons_succ]
                            refine wpAnyH_take (i := 20) (oi := { dst := some 109, op := Go.Op.move (Go.Operand.tmp 108), type := 4, pos := "l2_plan.go:91", after := #[{ on := 19, ground := Go.Ground.data }, { on := 17, ground := Go.Ground.chain }], guard := none }) (v := ?vvb20) rfl (by kernel_rfl) (by kernel_rfl) (by kernel_rfl) (fun _ _ _ h => h) (Or.inl ⟨by rfl, ?hyb20⟩) (by assumption) ?restb20
                            case hyb20 =>
                              intro w hSw
                              (try dsimp only at hSw)
                              go_simp
                              (try with_reducible rfl)
                            simp only [Act.put, List.setIfInBounds_toArray, List.set_cons_zero, List.set_cons_succ]
                            refine wpAnyH_take (i := 21) (oi := { dst := some 110, op := Go.Op.move (Go.Operand.tmp 13), type := 3, pos := "l2_plan.go:91", after := #[{ on := 20, ground := Go.Ground.guard }], guard := some (20, false) }) (v := ?vvb21) rfl (by kernel_rfl) (by kernel_rfl) (by kernel_rfl) (fun _ _ _ h => h) (Or.inl ⟨by rfl, ?hyb21⟩) (by assumption) ?restb21
                            case hyb21 =>
                              intro w hSw
                              (try dsimp only at hSw)
                              go_simp
                              (try with_reducible rfl)
                            simp only [Act.put, List.setIfInBounds_toArray, List.set_cons_zero, List.set_cons_succ]
                            refine wpAnyH_take (i := 22) (oi := { dst := some 111, op := Go.Op.move (Go.Operand.tmp 10), type := 3, pos := "l2_plan.go:91", after := #[{ on := 20, ground := Go.Ground.guard }], guard := some (20, false) }) (v := ?vvb22) rfl (by kernel_rfl) (by kernel_rfl) (by kernel_rfl) (fun _ _ _ h => h) (Or.inl ⟨by rfl, ?hyb22⟩) (by assumption) ?restb22
                            case hyb22 =>
                              intro w hSw
                              (try dsimp only at hSw)
                              go_simp
                              (try with_reducible rfl)
                            simp only [Act.put, List.setIfInBounds_toArray, List.set_cons_zero, List.set_cons_succ]
                            refine wpAnyH_take (i := 23) (oi := { dst := some 112, op := Go.Op.binOp Go.BinOp.gtr 3 (Go.Operand.tmp 110) (Go.Operand.tmp 111) 3, type := 4, pos := "l2_plan.go:91", after := #[{ on := 21, ground := Go.Ground.data }, { on := 22, ground := Go.Ground.data }, { on := 20, ground := Go.Ground.guard }], guard := some (20, false) }) (v := ?vvb23) rfl (by kernel_rfl) (by kernel_rfl) (by kernel_rfl) (fun _ _ _ h => h) (Or.inl ⟨by rfl, ?hyb23⟩) (by assumption) ?restb23
                            case hyb23 =>
                              intro w hSw
                              (try dsimp only at hSw)
                              go_simp
                              (try with_reducible rfl)
                            simp only [Act.put, List.setIfInBounds_toArray, List.set_cons_zero, List.set_cons_succ]
                            refine wpAnyH_take (i := 24) (oi := { dst := some 113, op := Go.Op.pick (Go.Operand.tmp 109) (Go.Operand.const (Go.Value.bool true)) (Go.Operand.tmp 112), type := 4, pos := "l2_plan.go:91", after := #[{ on := 20, ground := Go.Ground.data }, { on := 23, ground := Go.Ground.data }], guard := none }) (v := ?vvb24) rfl (by kernel_rfl) (by kernel_rfl) (by kernel_rfl) (fun _ _ _ h => h) (Or.inl ⟨by rfl, ?hyb24⟩) (by assumption) ?restb24
                            case hyb24 =>
                              intro w hSw
                              (try dsimp only at hSw)
                              go_simp
                              (try with_reducible rfl)
                            simp only [Act.put, List.setIfInBounds_toArray, List.set_cons_zero, List.set_cons_succ]
                            refine wpAnyH_take (i := 25) (oi := { dst := some 114, op := Go.Op.move (Go.Operand.tmp 113), type := 4, pos := "l2_plan.go:91", after := #[{ on := 24, ground := Go.Ground.data }, { on := 20, ground := Go.Ground.chain }], guard := none }) (v := ?vvb25) rfl (by kernel_rfl) (by kernel_rfl) (by kernel_rfl) (fun _ _ _ h => h) (Or.inl ⟨by rfl, ?hyb25⟩) (by assumption) ?restb25
                            case hyb25 =>
                              intro w hSw
                              (try dsimp only at hSw)
                              go_simp
                              (try with_reducible rfl)
                            simp only [Act.put, List.setIfInBounds_toArray, List.set_cons_zero, List.set_cons_succ]
                            refine wpAnyH_take (i := 26) (oi := { dst := some 115, op := Go.Op.move (Go.Operand.tmp 13), type := 3, pos := "l2_plan.go:91", after := #[{ on := 25, ground := Go.Ground.guard }], guard := some (25, false) }) (v := undef) rfl (by kernel_rfl) (by kernel_rfl) (by kernel_rfl) (fun _ _ _ h => h) (Or.inr ⟨by rfl, rfl⟩) (by assumption) ?_
                            simp only [Act.put, List.setIfInBounds_toArray, List.set_cons_zero, List.set_cons_succ]
                            refine wpAnyH_take (i := 27) (oi := { dst := some 116, op := Go.Op.move (Go.Operand.tmp 10), type := 3, pos := "l2_plan.go:91", after := #[{ on := 25, ground := Go.Ground.guard }], guard := some (25, false) }) (v := undef) rfl (by kernel_rfl) (by kernel_rfl) (by kernel_rfl) (fun _ _ _ h => h) (Or.inr ⟨by rfl, rfl⟩) (by assumption) ?_
                            simp only [Act.put, List.setIfInBounds_toArray, List.set_cons_zero, List.set_cons_succ]
                            refine wpAnyH_take (i := 28) (oi := { dst := some 117, op := Go.Op.binOp Go.BinOp.eql 3 (Go.Operand.tmp 115) (Go.Operand.tmp 116) 3, type := 4, pos := "l2_plan.go:91", after := #[{ on := 26, ground := Go.Ground.data }, { on := 27, ground := Go.Ground.data }, { on := 25, ground := Go.Ground.guard }], guard := some (25, false) }) (v := undef) rfl (by kernel_rfl) (by kernel_rfl) (by kernel_rfl) (fun _ _ _ h => h) (Or.inr ⟨by rfl, rfl⟩) (by assumption) ?_
                            simp only [Act.put, List.setIfInBounds_toArray, List.set_cons_zero, List.set_cons_succ]
                            refine wpAnyH_take (i := 29) (oi := { dst := some 118, op := Go.Op.move (Go.Operand.tmp 117), type := 4, pos := "l2_plan.go:91", after := #[{ on := 28, ground := Go.Ground.data }, { on := 25, ground := Go.Ground.chain }, { on := 25, ground := Go.Ground.guard }], guard := some (25, false) }) (v := undef) rfl (by kernel_rfl) (by kernel_rfl) (by kernel_rfl) (fun _ _ _ h => h) (Or.inr ⟨by rfl, rfl⟩) (by assumption) ?_
                            simp only [Act.put, List.setIfInBounds_toArray, List.set_cons_zero, List.set_cons_succ]
                            refine wpAnyH_take (i := 30) (oi := { dst := some 119, op := Go.Op.move (Go.Operand.tmp 11), type := 3, pos := "l2_plan.go:91", after := #[{ on := 29, ground := Go.Ground.guard }], guard := some (29, true) }) (v := undef) rfl (by kernel_rfl) (by kernel_rfl) (by kernel_rfl) (fun _ _ _ h => h) (Or.inr ⟨by rfl, rfl⟩) (by assumption) ?_
                            simp only [Act.put, List.setIfInBounds_toArray, List.set_cons_zero, List.set_cons_succ]
                            refine wpAnyH_take (i := 31) (oi := { dst := some 120, op := Go.Op.move (Go.Operand.tmp 8), type := 3, pos := "l2_plan.go:91", after := #[{ on := 29, ground := Go.Ground.guard }], guard := some (29, true) }) (v := undef) rfl (by kernel_rfl) (by kernel_rfl) (by kernel_rfl) (fun _ _ _ h => h) (Or.inr ⟨by rfl, rfl⟩) (by assumption) ?_
                            simp only [Act.put, List.setIfInBounds_toArray, List.set_cons_zero, List.set_cons_succ]
                            refine wpAnyH_take (i := 32) (oi := { dst := some 121, op := Go.Op.binOp Go.BinOp.gtr 3 (Go.Operand.tmp 119) (Go.Operand.tmp 120) 3, type := 4, pos := "l2_plan.go:91", after := #[{ on := 30, ground := Go.Ground.data }, { on := 31, ground := Go.Ground.data }, { on := 29, ground := Go.Ground.guard }], guard := some (29, true) }) (v := undef) rfl (by kernel_rfl) (by kernel_rfl) (by kernel_rfl) (fun _ _ _ h => h) (Or.inr ⟨by rfl, rfl⟩) (by assumption) ?_
                            simp only [Act.put, List.setIfInBounds_toArray, List.set_cons_zero, List.set_cons_succ]
                            refine wpAnyH_take (i := 33) (oi := { dst := some 122, op := Go.Op.pick (Go.Operand.tmp 118) (Go.Operand.tmp 121) (Go.Operand.const (Go.Value.bool false)), type := 4, pos := "l2_plan.go:91", after := #[{ on := 29, ground := Go.Ground.data }, { on := 32, ground := Go.Ground.data }, { on := 25, ground := Go.Ground.guard }], guard := some (25, false) }) (v := undef) rfl (by kernel_rfl) (by kernel_rfl) (by kernel_rfl) (fun _ _ _ h => h) (Or.inr ⟨by rfl, rfl⟩) (by assumption) ?_
                            simp only [Act.put, List.setIfInBounds_toArray, List.set_cons_zero, List.set_cons_succ]
                            refine wpAnyH_take (i := 34) (oi := { dst := some 123, op := Go.Op.pick (Go.Operand.tmp 114) (Go.Operand.const (Go.Value.bool true)) (Go.Operand.tmp 122), type := 4, pos := "l2_plan.go:91", after := #[{ on := 25, ground := Go.Ground.data }, { on := 33, ground := Go.Ground.data }], guard := none }) (v := ?vvb34) rfl (by kernel_rfl) (by kernel_rfl) (by kernel_rfl) (fun _ _ _ h => h) (Or.inl ⟨by rfl, ?hyb34⟩) (by assumption) ?restb34
                            case hyb34 =>
                              intro w hSw
                              (try dsimp only at hSw)
                              go_simp
                              (try with_reducible rfl)
                            simp only [Act.put, List.setIfInBounds_toArray, List.set_cons_zero, List.set_cons_succ]
                            refine wpAnyH_done (by kernel_rfl) ?_ _
                            have hJ := hD7
                            go_wp2
                            go_roundw
                            case rel => exact ⟨m + 1, by omega, by go_num, fun q hq => (by by_cases e : q = m; (· subst e; exact hon); (· exact hall4 q (by omega))), hX.later hJ, Below.join hB (Nat.le_refl _) hJ, hinj.below hJ hB.size⟩
                            case measure => simp [intOf]; omega
                          · have hgd : decide ((P i).s k < (P j).s m) = false := decide_eq_false hgt
                            by_cases hrs : (P j).s m = (P i).s k
                            · have hrb : ((P j).s m == (P i).s k) = true := by simpa using hrs
                              have hrh : Hid ((P j).s m = (P i).s k) := hrs
                              clear hrs
                              by_cases hcj0 : i < j
                              · have hcd : decide ((i : Int) < (j : Int)) = true := decide_eq_true (by omega)
                                have hon : onB gap f P i k j m = false := decide_eq_false (fun h => h.2.2.2.1 ⟨hrh.out, hcj0⟩)
                                go_wp2
                                refine wp_region_held_drew (S := (fun w' => w'.cell? ⟨w.heap.size, 2, none⟩ = some (.slice (some ⟨b, off, none⟩) np cap') ∧ w'.cell? ⟨b, off + i * 5, none⟩ = some (.int .i64 (f i).frm) ∧ w'.cell? ⟨b, off + i * 5 + 1, none⟩ = some (.int .i64 (f i).ready) ∧ w'.cell? ⟨b, off + i * 5 + 2, none⟩ = some (.int .i64 (f i).due) ∧ w'.cell? ⟨b, off + i * 5 + 3, none⟩ = some (.int .i64 (f i).weight) ∧ w'.cell? ⟨b, off + i * 5 + 4, none⟩ = some (.slice la (f i).nl lc) ∧ w'.cell? ⟨b, off + j * 5, none⟩ = some (.int .i64 (f j).frm) ∧ w'.cell? ⟨b, off + j * 5 + 1, none⟩ = some (.int .i64 (f j).ready) ∧ w'.cell? ⟨b, off + j * 5 + 2, none⟩ = some (.int .i64 (f j).due) ∧ w'.cell? ⟨b, off + j * 5 + 3, none⟩ = some (.int .i64 (f j).weight) ∧ w'.cell? ⟨b, off + j * 5 + 4, none⟩ = some (.slice (some ⟨bl, ol, none⟩) (f j).nl lc'))) (by kernel_rfl) hS0 (fun hHeld => ?_)
                                refine wpAnyH_take (i := 0) (oi := { dst := some 89, op := Go.Op.move (Go.Operand.tmp 8), type := 3, pos := "l2_plan.go:91", after := #[], guard := none }) (v := ?vvc0) rfl (by kernel_rfl) (by kernel_rfl) (by kernel_rfl) (fun _ _ _ h => h) (Or.inl ⟨by rfl, ?hyc0⟩) (by assumption) ?restc0
                                case hyc0 =>
                                  intro w hSw
                                  (try dsimp only at hSw)
                                  go_simp
                                  (try with_reducible rfl)
                                simp only [Act.put, List.setIfInBounds_toArray, List.set_cons_zero, List.set_cons_succ]
                                refine wpAnyH_take (i := 1) (oi := { dst := some 90, op := Go.Op.move (Go.Operand.tmp 11), type := 3, pos := "l2_plan.go:91", after := #[], guard := none }) (v := ?vvc1) rfl (by kernel_rfl) (by kernel_rfl) (by kernel_rfl) (fun _ _ _ h => h) (Or.inl ⟨by rfl, ?hyc1⟩) (by assumption) ?restc1
                                case hyc1 =>
                                  intro w hSw
                                  (try dsimp only at hSw)
                                  go_simp
                                  (try with_reducible rfl)
                                simp only [Act.put, List.setIfInBounds_toArray, List.set_cons_zero, List.set_cons_succ]
                                refine wpAnyH_take (i := 2) (oi := { dst := some 91, op := Go.Op.binOp Go.BinOp.eql 3 (Go.Operand.tmp 89) (Go.Operand.tmp 90) 3, type := 4, pos := "l2_plan.go:91", after := #[{ on := 0, ground := Go.Ground.data }, { on := 1, ground := Go.Ground.data }], guard := none }) (v := ?vvc2) rfl (by kernel_rfl) (by kernel_rfl) (by kernel_rfl) (fun _ _ _ h => h) (Or.inl ⟨by rfl, ?hyc2⟩) (by assumption) ?restc2
                                case hyc2 =>
                                  intro w hSw
                                  (try dsimp only at hSw)
                                  go_simp
                                  (try with_reducible rfl)
                                simp only [Act.put, List.setIfInBounds_toArray, List.set_cons_zero, List.set_cons_succ]
                                refine wpAnyH_take (i := 3) (oi := { dst := some 92, op := Go.Op.move (Go.Operand.tmp 91), type := 4, pos := "l2_plan.go:91", after := #[{ on := 2, ground := Go.Ground.data }], guard := none }) (v := ?vvc3) rfl (by kernel_rfl) (by kernel_rfl) (by kernel_rfl) (fun _ _ _ h => h) (Or.inl ⟨by rfl, ?hyc3⟩) (by assumption) ?restc3
                                case hyc3 =>
                                  intro w hSw
                                  (try dsimp only at hSw)
                                  go_simp
                                  (try with_reducible rfl)
                                simp only [Act.put, List.setIfInBounds_toArray, List.set_cons_zero, List.set_cons_succ]
                                refine wpAnyH_take (i := 4) (oi := { dst := some 93, op := Go.Op.fieldAddr 26 (Go.Operand.tmp 2) 2, type := 0, pos := "l2_plan.go:91", after := #[{ on := 3, ground := Go.Ground.guard }], guard := some (3, false) }) (v := ?vvc4) rfl (by kernel_rfl) (by kernel_rfl) (by kernel_rfl) (fun _ _ _ h => h) (Or.inl ⟨by rfl, ?hyc4⟩) (by assumption) ?restc4
                                case hyc4 =>
                                  intro w hSw
                                  (try dsimp only at hSw)
                                  go_simp
                                  (try with_reducible rfl)
                                simp only [Act.put, List.setIfInBounds_toArray, List.set_cons_zero, List.set_cons_succ]
                                refine wpAnyH_take (i := 5) (oi := { dst := some 94, op := Go.Op.load 24 (Go.Operand.tmp 93), type := 24, pos := "l2_plan.go:91", after := #[{ on := 4, ground := Go.Ground.data }, { on := 3, ground := Go.Ground.guard }], guard := some (3, false) }) (v := ?vvc5) rfl (by kernel_rfl) (by kernel_rfl) (by kernel_rfl) (fun _ _ _ h => h) (Or.inl ⟨by rfl, ?hyc5⟩) (by assumption) ?restc5
                                case hyc5 =>
                                  intro w hSw
                                  (try dsimp only at hSw)
                                  go_simp
                                  (try with_reducible rfl)
                                simp only [Act.put, List.setIfInBounds_toArray, List.set_cons_zero, List.set_cons_succ]
                                refine wpAnyH_take (i := 6) (oi := { dst := some 95, op := Go.Op.move (Go.Operand.tmp 8), type := 3, pos := "l2_plan.go:91", after := #[{ on := 3, ground := Go.Ground.guard }], guard := some (3, false) }) (v := ?vvc6) rfl (by kernel_rfl) (by kernel_rfl) (by kernel_rfl) (fun _ _ _ h => h) (Or.inl ⟨by rfl, ?hyc6⟩) (by assumption) ?restc6
                                case hyc6 =>
                                  intro w hSw
                                  (try dsimp only at hSw)
                                  go_simp
                                  (try with_reducible rfl)
                                simp only [Act.put, List.setIfInBounds_toArray, List.set_cons_zero, List.set_cons_succ]
                                refine wpAnyH_take (i := 7) (oi := { dst := some 96, op := Go.Op.indexAddr 24 (Go.Operand.tmp 94) (Go.Operand.tmp 95), type := 0, pos := "l2_plan.go:91", after := #[{ on := 5, ground := Go.Ground.data }, { on := 6, ground := Go.Ground.data }, { on := 3, ground := Go.Ground.guard }], guard := some (3, false) }) (v := ?vvc7) rfl (by kernel_rfl) (by kernel_rfl) (by kernel_rfl) (fun _ _ _ h => h) (Or.inl ⟨by rfl, ?hyc7⟩) (by assumption) ?restc7
                                case hyc7 =>
                                  intro w hSw
                                  (try dsimp only at hSw)
                                  go_simp
                                  (try with_reducible rfl)
                                simp only [Act.put, List.setIfInBounds_toArray, List.set_cons_zero, List.set_cons_succ]
                                refine wpAnyH_take (i := 8) (oi := { dst := some 97, op := Go.Op.load 72 (Go.Operand.tmp 96), type := 72, pos := "l2_plan.go:91", after := #[{ on := 7, ground := Go.Ground.data }, { on := 3, ground := Go.Ground.guard }], guard := some (3, false) }) (v := ?vvc8) rfl (by kernel_rfl) (by kernel_rfl) (by kernel_rfl) (fun _ _ _ h => h) (Or.inl ⟨by rfl, ?hyc8⟩) (by assumption) ?restc8
                                case hyc8 =>
                                  intro w hSw
                                  (try dsimp only at hSw)
                                  go_simp
                                  (try with_reducible rfl)
                                simp only [Act.put, List.setIfInBounds_toArray, List.set_cons_zero, List.set_cons_succ]
                                refine wpAnyH_take (i := 9) (oi := { dst := some 98, op := Go.Op.move (Go.Operand.tmp 9), type := 3, pos := "l2_plan.go:91", after := #[{ on := 3, ground := Go.Ground.guard }], guard := some (3, false) }) (v := ?vvc9) rfl (by kernel_rfl) (by kernel_rfl) (by kernel_rfl) (fun _ _ _ h => h) (Or.inl ⟨by rfl, ?hyc9⟩) (by assumption) ?restc9
                                case hyc9 =>
                                  intro w hSw
                                  (try dsimp only at hSw)
                                  go_simp
                                  (try with_reducible rfl)
                                simp only [Act.put, List.setIfInBounds_toArray, List.set_cons_zero, List.set_cons_succ]
                                refine wpAnyH_take (i := 11) (oi := { dst := some 100, op := Go.Op.fieldAddr 26 (Go.Operand.tmp 2) 2, type := 0, pos := "l2_plan.go:91", after := #[{ on := 3, ground := Go.Ground.guard }], guard := some (3, false) }) (v := ?vvc11) rfl (by kernel_rfl) (by kernel_rfl) (by kernel_rfl) (fun _ _ _ h => h) (Or.inl ⟨by rfl, ?hyc11⟩) (by assumption) ?restc11
                                case hyc11 =>
                                  intro w hSw
                                  (try dsimp only at hSw)
                                  go_simp
                                  (try with_reducible rfl)
                                simp only [Act.put, List.setIfInBounds_toArray, List.set_cons_zero, List.set_cons_succ]
                                refine wpAnyH_take (i := 12) (oi := { dst := some 101, op := Go.Op.load 24 (Go.Operand.tmp 100), type := 24, pos := "l2_plan.go:91", after := #[{ on := 11, ground := Go.Ground.data }, { on := 3, ground := Go.Ground.guard }], guard := some (3, false) }) (v := ?vvc12) rfl (by kernel_rfl) (by kernel_rfl) (by kernel_rfl) (fun _ _ _ h => h) (Or.inl ⟨by rfl, ?hyc12⟩) (by assumption) ?restc12
                                case hyc12 =>
                                  intro w hSw
                                  (try dsimp only at hSw)
                                  go_simp
                                  (try with_reducible rfl)
                                simp only [Act.put, List.setIfInBounds_toArray, List.set_cons_zero, List.set_cons_succ]
                                refine wpAnyH_take (i := 13) (oi := { dst := some 102, op := Go.Op.move (Go.Operand.tmp 11), type := 3, pos := "l2_plan.go:91", after := #[{ on := 3, ground := Go.Ground.guard }], guard := some (3, false) }) (v := ?vvc13) rfl (by kernel_rfl) (by kernel_rfl) (by kernel_rfl) (fun _ _ _ h => h) (Or.inl ⟨by rfl, ?hyc13⟩) (by assumption) ?restc13
                                case hyc13 =>
                                  intro w hSw
                                  (try dsimp only at hSw)
                                  go_simp
                                  (try with_reducible rfl)
                                simp only [Act.put, List.setIfInBounds_toArray, List.set_cons_zero, List.set_cons_succ]
                                refine wpAnyH_take (i := 14) (oi := { dst := some 103, op := Go.Op.indexAddr 24 (Go.Operand.tmp 101) (Go.Operand.tmp 102), type := 0, pos := "l2_plan.go:91", after := #[{ on := 12, ground := Go.Ground.data }, { on := 13, ground := Go.Ground.data }, { on := 3, ground := Go.Ground.guard }], guard := some (3, false) }) (v := ?vvc14) rfl (by kernel_rfl) (by kernel_rfl) (by kernel_rfl) (fun _ _ _ h => h) (Or.inl ⟨by rfl, ?hyc14⟩) (by assumption) ?restc14
                                case hyc14 =>
                                  intro w hSw
                                  (try dsimp only at hSw)
                                  go_simp
                                  (try with_reducible rfl)
                                simp only [Act.put, List.setIfInBounds_toArray, List.set_cons_zero, List.set_cons_succ]
                                refine wpAnyH_take (i := 15) (oi := { dst := some 104, op := Go.Op.load 72 (Go.Operand.tmp 103), type := 72, pos := "l2_plan.go:91", after := #[{ on := 14, ground := Go.Ground.data }, { on := 3, ground := Go.Ground.guard }], guard := some (3, false) }) (v := ?vvc15) rfl (by kernel_rfl) (by kernel_rfl) (by kernel_rfl) (fun _ _ _ h => h) (Or.inl ⟨by rfl, ?hyc15⟩) (by assumption) ?restc15
                                case hyc15 =>
                                  intro w hSw
                                  (try dsimp only at hSw)
                                  go_simp
                                  (try with_reducible rfl)
                                simp only [Act.put, List.setIfInBounds_toArray, List.set_cons_zero, List.set_cons_succ]
                                refine wpAnyH_take (i := 16) (oi := { dst := some 105, op := Go.Op.move (Go.Operand.tmp 12), type := 3, pos := "l2_plan.go:91", after := #[{ on := 3, ground := Go.Ground.guard }], guard := some (3, false) }) (v := ?vvc16) rfl (by kernel_rfl) (by kernel_rfl) (by kernel_rfl) (fun _ _ _ h => h) (Or.inl ⟨by rfl, ?hyc16⟩) (by assumption) ?restc16
                                case hyc16 =>
                                  intro w hSw
                                  (try dsimp only at hSw)
                                  go_simp
                                  (try with_reducible rfl)
                                simp only [Act.put, List.setIfInBounds_toArray, List.set_cons_zero, List.set_cons_succ]
                                refine wpAnyH_ready (rs := [10]) (by kernel_rfl) (by simp) ?_
                                refine AllReadyH.cons (o := { dst := some 99, op := Go.Op.call { callee := Go.Callee.value (Go.Operand.func 32), args := #[Go.Operand.tmp 97, Go.Operand.tmp 98], argTypes := #[72, 3] }, type := 3, pos := "l2_plan.go:91", after := #[{ on := 8, ground := Go.Ground.data }, { on := 9, ground := Go.Ground.data }, { on := 3, ground := Go.Ground.chain }, { on := 3, ground := Go.Ground.guard }], guard := some (3, false) }) rfl (fun K hK => ?_) AllReadyH.nil
                                go_simp
                                refine (l2track_any (f i) k _ _ _ hlt2 hni hlg).mono ?_
                                rintro _ W6 ⟨rfl, hB6⟩
                                replace hlg' := hlg'.grow hB6
                                have hD6 := Below.join hD0 (Nat.le_refl _) hB6
                                refine hK.out _ _ (hSS _ hD6) (fun hHeld => ?_)
                                clear hK K
                                (try simp only [Act.put, List.setIfInBounds_toArray, List.set_cons_zero, List.set_cons_succ])
                                refine wpAnyH_ready (rs := [17]) (by kernel_rfl) (by simp) ?_
                                refine AllReadyH.cons (o := { dst := some 106, op := Go.Op.call { callee := Go.Callee.value (Go.Operand.func 32), args := #[Go.Operand.tmp 104, Go.Operand.tmp 105], argTypes := #[72, 3] }, type := 3, pos := "l2_plan.go:91", after := #[{ on := 15, ground := Go.Ground.data }, { on := 16, ground := Go.Ground.data }, { on := 10, ground := Go.Ground.chain }, { on := 3, ground := Go.Ground.guard }], guard := some (3, false) }) rfl (fun K hK => ?_) AllReadyH.nil
                                go_simp
                                refine (l2track_any (f j) m _ _ _ hlt4 hnj hlg').mono ?_
                                rintro _ W7 ⟨rfl, hB7⟩
                                have hD7 := Below.join hD6 (Nat.le_refl _) hB7
                                refine hK.out _ _ (hSS _ hD7) (fun hHeld => ?_)
                                clear hK K
                                (try simp only [Act.put, List.setIfInBounds_toArray, List.set_cons_zero, List.set_cons_succ])
                                refine wpAnyH_take (i := 18) (oi := { dst := some 107, op := Go.Op.binOp Go.BinOp.neq 3 (Go.Operand.tmp 99) (Go.Operand.tmp 106) 3, type := 4, pos := "l2_plan.go:91", after := #[{ on := 10, ground := Go.Ground.data }, { on := 17, ground := Go.Ground.data }, { on := 3, ground := Go.Ground.guard }], guard := some (3, false) }) (v := ?vvc18) rfl (by kernel_rfl) (by kernel_rfl) (by kernel_rfl) (fun _ _ _ h => h) (Or.inl ⟨by rfl, ?hyc18⟩) (by assumption) ?restc18
                                case hyc18 =>
                                  intro w hSw
                                  (try dsimp only at hSw)
                                  go_simp
                                  (try with_reducible rfl)
                                simp only [Act.put, List.setIfInBounds_toArray, List.set_cons_zero, List.set_cons_succ]
                                refine wpAnyH_take (i := 19) (oi := { dst := some 108, op := Go.Op.pick (Go.Operand.tmp 92) (Go.Operand.const (Go.Value.bool true)) (Go.Operand.tmp 107), type := 4, pos := "l2_plan.go:91", after := #[{ on := 3, ground := Go.Ground.data }, { on := 18, ground := Go.Ground.data }], guard := none }) (v := ?vvc19) rfl (by kernel_rfl) (by kernel_rfl) (by kernel_rfl) (fun _ _ _ h => h) (Or.inl ⟨by rfl, ?hyc19⟩) (by assumption) ?restc19
                                case hyc19 =>
                                  intro w hSw
                                  (try dsimp only at hSw)
                                  go_simp
                                  (try with_reducible rfl)
                                simp only [Act.put, List.setIfInBounds_toArray, List.set_cons_zero, List.set_cons_succ]
                                refine wpAnyH_take (i := 20) (oi := { dst := some 109, op := Go.Op.move (Go.Operand.tmp 108), type := 4, pos := "l2_plan.go:91", after := #[{ on := 19, ground := Go.Ground.data }, { on := 17, ground := Go.Ground.chain }], guard := none }) (v := ?vvc20) rfl (by kernel_rfl) (by kernel_rfl) (by kernel_rfl) (fun _ _ _ h => h) (Or.inl ⟨by rfl, ?hyc20⟩) (by assumption) ?restc20
                                case hyc20 =>
                                  intro w hSw
                                  (try dsimp only at hSw)
                                  go_simp
                                  (try with_reducible rfl)
                                simp only [Act.put, List.setIfInBounds_toArray, List.set_cons_zero, List.set_cons_succ]
                                refine wpAnyH_take (i := 21) (oi := { dst := some 110, op := Go.Op.move (Go.Operand.tmp 13), type := 3, pos := "l2_plan.go:91", after := #[{ on := 20, ground := Go.Ground.guard }], guard := some (20, false) }) (v := ?vvc21) rfl (by kernel_rfl) (by kernel_rfl) (by kernel_rfl) (fun _ _ _ h => h) (Or.inl ⟨by rfl, ?hyc21⟩) (by assumption) ?restc21
                                case hyc21 =>
                                  intro w hSw
                                  (try dsimp only at hSw)
                                  go_simp
                                  (try with_reducible rfl)
                                simp only [Act.put, List.setIfInBounds_toArray, List.set_cons_zero, List.set_cons_succ]
                                refine wpAnyH_take (i := 22) (oi := { dst := some 111, op := Go.Op.move (Go.Operand.tmp 10), type := 3, pos := "l2_plan.go:91", after := #[{ on := 20, ground := Go.Ground.guard }], guard := some (20, false) }) (v := ?vvc22) rfl (by kernel_rfl) (by kernel_rfl) (by kernel_rfl) (fun _ _ _ h => h) (Or.inl ⟨by rfl, ?hyc22⟩) (by assumption) ?restc22
                                case hyc22 =>
                                  intro w hSw
                                  (try dsimp only at hSw)
                                  go_simp
                                  (try with_reducible rfl)
                                simp only [Act.put, List.setIfInBounds_toArray, List.set_cons_zero, List.set_cons_succ]
                                refine wpAnyH_take (i := 23) (oi := { dst := some 112, op := Go.Op.binOp Go.BinOp.gtr 3 (Go.Operand.tmp 110) (Go.Operand.tmp 111) 3, type := 4, pos := "l2_plan.go:91", after := #[{ on := 21, ground := Go.Ground.data }, { on := 22, ground := Go.Ground.data }, { on := 20, ground := Go.Ground.guard }], guard := some (20, false) }) (v := ?vvc23) rfl (by kernel_rfl) (by kernel_rfl) (by kernel_rfl) (fun _ _ _ h => h) (Or.inl ⟨by rfl, ?hyc23⟩) (by assumption) ?restc23
                                case hyc23 =>
                                  intro w hSw
                                  (try dsimp only at hSw)
                                  go_simp
                                  (try with_reducible rfl)
                                simp only [Act.put, List.setIfInBounds_toArray, List.set_cons_zero, List.set_cons_succ]
                                refine wpAnyH_take (i := 24) (oi := { dst := some 113, op := Go.Op.pick (Go.Operand.tmp 109) (Go.Operand.const (Go.Value.bool true)) (Go.Operand.tmp 112), type := 4, pos := "l2_plan.go:91", after := #[{ on := 20, ground := Go.Ground.data }, { on := 23, ground := Go.Ground.data }], guard := none }) (v := ?vvc24) rfl (by kernel_rfl) (by kernel_rfl) (by kernel_rfl) (fun _ _ _ h => h) (Or.inl ⟨by rfl, ?hyc24⟩) (by assumption) ?restc24
                                case hyc24 =>
                                  intro w hSw
                                  (try dsimp only at hSw)
                                  go_simp
                                  (try with_reducible rfl)
                                simp only [Act.put, List.setIfInBounds_toArray, List.set_cons_zero, List.set_cons_succ]
                                refine wpAnyH_take (i := 25) (oi := { dst := some 114, op := Go.Op.move (Go.Operand.tmp 113), type := 4, pos := "l2_plan.go:91", after := #[{ on := 24, ground := Go.Ground.data }, { on := 20, ground := Go.Ground.chain }], guard := none }) (v := ?vvc25) rfl (by kernel_rfl) (by kernel_rfl) (by kernel_rfl) (fun _ _ _ h => h) (Or.inl ⟨by rfl, ?hyc25⟩) (by assumption) ?restc25
                                case hyc25 =>
                                  intro w hSw
                                  (try dsimp only at hSw)
                                  go_simp
                                  (try with_reducible rfl)
                                simp only [Act.put, List.setIfInBounds_toArray, List.set_cons_zero, List.set_cons_succ]
                                refine wpAnyH_take (i := 26) (oi := { dst := some 115, op := Go.Op.move (Go.Operand.tmp 13), type := 3, pos := "l2_plan.go:91", after := #[{ on := 25, ground := Go.Ground.guard }], guard := some (25, false) }) (v := ?vvc26) rfl (by kernel_rfl) (by kernel_rfl) (by kernel_rfl) (fun _ _ _ h => h) (Or.inl ⟨by rfl, ?hyc26⟩) (by assumption) ?restc26
                                case hyc26 =>
                                  intro w hSw
                                  (try dsimp only at hSw)
                                  go_simp
                                  (try with_reducible rfl)
                                simp only [Act.put, List.setIfInBounds_toArray, List.set_cons_zero, List.set_cons_succ]
                                refine wpAnyH_take (i := 27) (oi := { dst := some 116, op := Go.Op.move (Go.Operand.tmp 10), type := 3, pos := "l2_plan.go:91", after := #[{ on := 25, ground := Go.Ground.guard }], guard := some (25, false) }) (v := ?vvc27) rfl (by kernel_rfl) (by kernel_rfl) (by kernel_rfl) (fun _ _ _ h => h) (Or.inl ⟨by rfl, ?hyc27⟩) (by assumption) ?restc27
                                case hyc27 =>
                                  intro w hSw
                                  (try dsimp only at hSw)
                                  go_simp
                                  (try with_reducible rfl)
                                simp only [Act.put, List.setIfInBounds_toArray, List.set_cons_zero, List.set_cons_succ]
                                refine wpAnyH_take (i := 28) (oi := { dst := some 117, op := Go.Op.binOp Go.BinOp.eql 3 (Go.Operand.tmp 115) (Go.Operand.tmp 116) 3, type := 4, pos := "l2_plan.go:91", after := #[{ on := 26, ground := Go.Ground.data }, { on := 27, ground := Go.Ground.data }, { on := 25, ground := Go.Ground.guard }], guard := some (25, false) }) (v := ?vvc28) rfl (by kernel_rfl) (by kernel_rfl) (by kernel_rfl) (fun _ _ _ h => h) (Or.inl ⟨by rfl, ?hyc28⟩) (by assumption) ?restc28
                                case hyc28 =>
                                  intro w hSw
                                  (try dsimp only at hSw)
                                  go_simp
                                  (try with_reducible rfl)
                                simp only [Act.put, List.setIfInBounds_toArray, List.set_cons_zero, List.set_cons_succ]
                                refine wpAnyH_take (i := 29) (oi := { dst := some 118, op := Go.Op.move (Go.Operand.tmp 117), type := 4, pos := "l2_plan.go:91", after := #[{ on := 28, ground := Go.Ground.data }, { on := 25, ground := Go.Ground.chain }, { on := 25, ground := Go.Ground.guard }], guard := some (25, false) }) (v := ?vvc29) rfl (by kernel_rfl) (by kernel_rfl) (by kernel_rfl) (fun _ _ _ h => h) (Or.inl ⟨by rfl, ?hyc29⟩) (by assumption) ?restc29
                                case hyc29 =>
                                  intro w hSw
                                  (try dsimp only at hSw)
                                  go_simp
                                  (try with_reducible rfl)
                                simp only [Act.put, List.setIfInBounds_toArray, List.set_cons_zero, List.set_cons_succ]
                                refine wpAnyH_take (i := 30) (oi := { dst := some 119, op := Go.Op.move (Go.Operand.tmp 11), type := 3, pos := "l2_plan.go:91", after := #[{ on := 29, ground := Go.Ground.guard }], guard := some (29, true) }) (v := ?vvc30) rfl (by kernel_rfl) (by kernel_rfl) (by kernel_rfl) (fun _ _ _ h => h) (Or.inl ⟨by rfl, ?hyc30⟩) (by assumption) ?restc30
                                case hyc30 =>
                                  intro w hSw
                                  (try dsimp only at hSw)
                                  go_simp
                                  (try with_reducible rfl)
                                simp only [Act.put, List.setIfInBounds_toArray, List.set_cons_zero, List.set_cons_succ]
                                refine wpAnyH_take (i := 31) (oi := { dst := some 120, op := Go.Op.move (Go.Operand.tmp 8), type := 3, pos := "l2_plan.go:91", after := #[{ on := 29, ground := Go.Ground.guard }], guard := some (29, true) }) (v := ?vvc31) rfl (by kernel_rfl) (by kernel_rfl) (by kernel_rfl) (fun _ _ _ h => h) (Or.inl ⟨by rfl, ?hyc31⟩) (by assumption) ?restc31
                                case hyc31 =>
                                  intro w hSw
                                  (try dsimp only at hSw)
                                  go_simp
                                  (try with_reducible rfl)
                                simp only [Act.put, List.setIfInBounds_toArray, List.set_cons_zero, List.set_cons_succ]
                                refine wpAnyH_take (i := 32) (oi := { dst := some 121, op := Go.Op.binOp Go.BinOp.gtr 3 (Go.Operand.tmp 119) (Go.Operand.tmp 120) 3, type := 4, pos := "l2_plan.go:91", after := #[{ on := 30, ground := Go.Ground.data }, { on := 31, ground := Go.Ground.data }, { on := 29, ground := Go.Ground.guard }], guard := some (29, true) }) (v := ?vvc32) rfl (by kernel_rfl) (by kernel_rfl) (by kernel_rfl) (fun _ _ _ h => h) (Or.inl ⟨by rfl, ?hyc32⟩) (by assumption) ?restc32
                                case hyc32 =>
                                  intro w hSw
                                  (try dsimp only at hSw)
                                  go_simp
                                  (try with_reducible rfl)
                                simp only [Act.put, List.setIfInBounds_toArray, List.set_cons_zero, List.set_cons_succ]
                                refine wpAnyH_take (i := 33) (oi := { dst := some 122, op := Go.Op.pick (Go.Operand.tmp 118) (Go.Operand.tmp 121) (Go.Operand.const (Go.Value.bool false)), type := 4, pos := "l2_plan.go:91", after := #[{ on := 29, ground := Go.Ground.data }, { on := 32, ground := Go.Ground.data }, { on := 25, ground := Go.Ground.guard }], guard := some (25, false) }) (v := ?vvc33) rfl (by kernel_rfl) (by kernel_rfl) (by kernel_rfl) (fun _ _ _ h => h) (Or.inl ⟨by rfl, ?hyc33⟩) (by assumption) ?restc33
                                case hyc33 =>
                                  intro w hSw
                                  (try dsimp only at hSw)
                                  go_simp
                                  (try with_reducible rfl)
                                simp only [Act.put, List.setIfInBounds_toArray, List.set_cons_zero, List.set_cons_succ]
                                refine wpAnyH_take (i := 34) (oi := { dst := some 123, op := Go.Op.pick (Go.Operand.tmp 114) (Go.Operand.const (Go.Value.bool true)) (Go.Operand.tmp 122), type := 4, pos := "l2_plan.go:91", after := #[{ on := 25, ground := Go.Ground.data }, { on := 33, ground := Go.Ground.data }], guard := none }) (v := ?vvc34) rfl (by kernel_rfl) (by kernel_rfl) (by kernel_rfl) (fun _ _ _ h => h) (Or.inl ⟨by rfl, ?hyc34⟩) (by assumption) ?restc34
                                case hyc34 =>
                                  intro w hSw
                                  (try dsimp only at hSw)
                                  go_simp
                                  (try with_reducible rfl)
                                simp only [Act.put, List.setIfInBounds_toArray, List.set_cons_zero, List.set_cons_succ]
                                refine wpAnyH_done (by kernel_rfl) ?_ _
                                have hJ := hD7
                                go_wp2
                                go_roundw
                                case rel => exact ⟨m + 1, by omega, by go_num, fun q hq => (by by_cases e : q = m; (· subst e; exact hon); (· exact hall4 q (by omega))), hX.later hJ, Below.join hB (Nat.le_refl _) hJ, hinj.below hJ hB.size⟩
                                case measure => simp [intOf]; omega
                              · have hcd : decide ((i : Int) < (j : Int)) = false := decide_eq_false (by omega)
                                have hcj : Hid (¬ ((P j).s m = (P i).s k ∧ i < j)) := (fun h => hcj0 h.2)
                                go_wp2
                                refine wp_region_held_drew (S := (fun w' => w'.cell? ⟨w.heap.size, 2, none⟩ = some (.slice (some ⟨b, off, none⟩) np cap') ∧ w'.cell? ⟨b, off + i * 5, none⟩ = some (.int .i64 (f i).frm) ∧ w'.cell? ⟨b, off + i * 5 + 1, none⟩ = some (.int .i64 (f i).ready) ∧ w'.cell? ⟨b, off + i * 5 + 2, none⟩ = some (.int .i64 (f i).due) ∧ w'.cell? ⟨b, off + i * 5 + 3, none⟩ = some (.int .i64 (f i).weight) ∧ w'.cell? ⟨b, off + i * 5 + 4, none⟩ = some (.slice la (f i).nl lc) ∧ w'.cell? ⟨b, off + j * 5, none⟩ = some (.int .i64 (f j).frm) ∧ w'.cell? ⟨b, off + j * 5 + 1, none⟩ = some (.int .i64 (f j).ready) ∧ w'.cell? ⟨b, off + j * 5 + 2, none⟩ = some (.int .i64 (f j).due) ∧ w'.cell? ⟨b, off + j * 5 + 3, none⟩ = some (.int .i64 (f j).weight) ∧ w'.cell? ⟨b, off + j * 5 + 4, none⟩ = some (.slice (some ⟨bl, ol, none⟩) (f j).nl lc'))) (by kernel_rfl) hS0 (fun hHeld => ?_)
                                refine wpAnyH_take (i := 0) (oi := { dst := some 89, op := Go.Op.move (Go.Operand.tmp 8), type := 3, pos := "l2_plan.go:91", after := #[], guard := none }) (v := ?vvd0) rfl (by kernel_rfl) (by kernel_rfl) (by kernel_rfl) (fun _ _ _ h => h) (Or.inl ⟨by rfl, ?hyd0⟩) (by assumption) ?restd0
                                case hyd0 =>
                                  intro w hSw
                                  (try dsimp only at hSw)
                                  go_simp
                                  (try with_reducible rfl)
                                simp only [Act.put, List.setIfInBounds_toArray, List.set_cons_zero, List.set_cons_succ]
                                refine wpAnyH_take (i := 1) (oi := { dst := some 90, op := Go.Op.move (Go.Operand.tmp 11), type := 3, pos := "l2_plan.go:91", after := #[], guard := none }) (v := ?vvd1) rfl (by kernel_rfl) (by kernel_rfl) (by kernel_rfl) (fun _ _ _ h => h) (Or.inl ⟨by rfl, ?hyd1⟩) (by assumption) ?restd1
                                case hyd1 =>
                                  intro w hSw
                                  (try dsimp only at hSw)
                                  go_simp
                                  (try with_reducible rfl)
                                simp only [Act.put, List.setIfInBounds_toArray, List.set_cons_zero, List.set_cons_succ]
                                refine wpAnyH_take (i := 2) (oi := { dst := some 91, op := Go.Op.binOp Go.BinOp.eql 3 (Go.Operand.tmp 89) (Go.Operand.tmp 90) 3, type := 4, pos := "l2_plan.go:91", after := #[{ on := 0, ground := Go.Ground.data }, { on := 1, ground := Go.Ground.data }], guard := none }) (v := ?vvd2) rfl (by kernel_rfl) (by kernel_rfl) (by kernel_rfl) (fun _ _ _ h => h) (Or.inl ⟨by rfl, ?hyd2⟩) (by assumption) ?restd2
                                case hyd2 =>
                                  intro w hSw
                                  (try dsimp only at hSw)
                                  go_simp
                                  (try with_reducible rfl)
                                simp only [Act.put, List.setIfInBounds_toArray, List.set_cons_zero, List.set_cons_succ]
                                refine wpAnyH_take (i := 3) (oi := { dst := some 92, op := Go.Op.move (Go.Operand.tmp 91), type := 4, pos := "l2_plan.go:91", after := #[{ on := 2, ground := Go.Ground.data }], guard := none }) (v := ?vvd3) rfl (by kernel_rfl) (by kernel_rfl) (by kernel_rfl) (fun _ _ _ h => h) (Or.inl ⟨by rfl, ?hyd3⟩) (by assumption) ?restd3
                                case hyd3 =>
                                  intro w hSw
                                  (try dsimp only at hSw)
                                  go_simp
                                  (try with_reducible rfl)
                                simp only [Act.put, List.setIfInBounds_toArray, List.set_cons_zero, List.set_cons_succ]
                                refine wpAnyH_take (i := 4) (oi := { dst := some 93, op := Go.Op.fieldAddr 26 (Go.Operand.tmp 2) 2, type := 0, pos := "l2_plan.go:91", after := #[{ on := 3, ground := Go.Ground.guard }], guard := some (3, false) }) (v := ?vvd4) rfl (by kernel_rfl) (by kernel_rfl) (by kernel_rfl) (fun _ _ _ h => h) (Or.inl ⟨by rfl, ?hyd4⟩) (by assumption) ?restd4
                                case hyd4 =>
                                  intro w hSw
                                  (try dsimp only at hSw)
                                  go_simp
                                  (try with_reducible rfl)
                                simp only [Act.put, List.setIfInBounds_toArray, List.set_cons_zero, List.set_cons_succ]
                                refine wpAnyH_take (i := 5) (oi := { dst := some 94, op := Go.Op.load 24 (Go.Operand.tmp 93), type := 24, pos := "l2_plan.go:91", after := #[{ on := 4, ground := Go.Ground.data }, { on := 3, ground := Go.Ground.guard }], guard := some (3, false) }) (v := ?vvd5) rfl (by kernel_rfl) (by kernel_rfl) (by kernel_rfl) (fun _ _ _ h => h) (Or.inl ⟨by rfl, ?hyd5⟩) (by assumption) ?restd5
                                case hyd5 =>
                                  intro w hSw
                                  (try dsimp only at hSw)
                                  go_simp
                                  (try with_reducible rfl)
                                simp only [Act.put, List.setIfInBounds_toArray, List.set_cons_zero, List.set_cons_succ]
                                refine wpAnyH_take (i := 6) (oi := { dst := some 95, op := Go.Op.move (Go.Operand.tmp 8), type := 3, pos := "l2_plan.go:91", after := #[{ on := 3, ground := Go.Ground.guard }], guard := some (3, false) }) (v := ?vvd6) rfl (by kernel_rfl) (by kernel_rfl) (by kernel_rfl) (fun _ _ _ h => h) (Or.inl ⟨by rfl, ?hyd6⟩) (by assumption) ?restd6
                                case hyd6 =>
                                  intro w hSw
                                  (try dsimp only at hSw)
                                  go_simp
                                  (try with_reducible rfl)
                                simp only [Act.put, List.setIfInBounds_toArray, List.set_cons_zero, List.set_cons_succ]
                                refine wpAnyH_take (i := 7) (oi := { dst := some 96, op := Go.Op.indexAddr 24 (Go.Operand.tmp 94) (Go.Operand.tmp 95), type := 0, pos := "l2_plan.go:91", after := #[{ on := 5, ground := Go.Ground.data }, { on := 6, ground := Go.Ground.data }, { on := 3, ground := Go.Ground.guard }], guard := some (3, false) }) (v := ?vvd7) rfl (by kernel_rfl) (by kernel_rfl) (by kernel_rfl) (fun _ _ _ h => h) (Or.inl ⟨by rfl, ?hyd7⟩) (by assumption) ?restd7
                                case hyd7 =>
                                  intro w hSw
                                  (try dsimp only at hSw)
                                  go_simp
                                  (try with_reducible rfl)
                                simp only [Act.put, List.setIfInBounds_toArray, List.set_cons_zero, List.set_cons_succ]
                                refine wpAnyH_take (i := 8) (oi := { dst := some 97, op := Go.Op.load 72 (Go.Operand.tmp 96), type := 72, pos := "l2_plan.go:91", after := #[{ on := 7, ground := Go.Ground.data }, { on := 3, ground := Go.Ground.guard }], guard := some (3, false) }) (v := ?vvd8) rfl (by kernel_rfl) (by kernel_rfl) (by kernel_rfl) (fun _ _ _ h => h) (Or.inl ⟨by rfl, ?hyd8⟩) (by assumption) ?restd8
                                case hyd8 =>
                                  intro w hSw
                                  (try dsimp only at hSw)
                                  go_simp
                                  (try with_reducible rfl)
                                simp only [Act.put, List.setIfInBounds_toArray, List.set_cons_zero, List.set_cons_succ]
                                refine wpAnyH_take (i := 9) (oi := { dst := some 98, op := Go.Op.move (Go.Operand.tmp 9), type := 3, pos := "l2_plan.go:91", after := #[{ on := 3, ground := Go.Ground.guard }], guard := some (3, false) }) (v := ?vvd9) rfl (by kernel_rfl) (by kernel_rfl) (by kernel_rfl) (fun _ _ _ h => h) (Or.inl ⟨by rfl, ?hyd9⟩) (by assumption) ?restd9
                                case hyd9 =>
                                  intro w hSw
                                  (try dsimp only at hSw)
                                  go_simp
                                  (try with_reducible rfl)
                                simp only [Act.put, List.setIfInBounds_toArray, List.set_cons_zero, List.set_cons_succ]
                                refine wpAnyH_take (i := 11) (oi := { dst := some 100, op := Go.Op.fieldAddr 26 (Go.Operand.tmp 2) 2, type := 0, pos := "l2_plan.go:91", after := #[{ on := 3, ground := Go.Ground.guard }], guard := some (3, false) }) (v := ?vvd11) rfl (by kernel_rfl) (by kernel_rfl) (by kernel_rfl) (fun _ _ _ h => h) (Or.inl ⟨by rfl, ?hyd11⟩) (by assumption) ?restd11
                                case hyd11 =>
                                  intro w hSw
                                  (try dsimp only at hSw)
                                  go_simp
                                  (try with_reducible rfl)
                                simp only [Act.put, List.setIfInBounds_toArray, List.set_cons_zero, List.set_cons_succ]
                                refine wpAnyH_take (i := 12) (oi := { dst := some 101, op := Go.Op.load 24 (Go.Operand.tmp 100), type := 24, pos := "l2_plan.go:91", after := #[{ on := 11, ground := Go.Ground.data }, { on := 3, ground := Go.Ground.guard }], guard := some (3, false) }) (v := ?vvd12) rfl (by kernel_rfl) (by kernel_rfl) (by kernel_rfl) (fun _ _ _ h => h) (Or.inl ⟨by rfl, ?hyd12⟩) (by assumption) ?restd12
                                case hyd12 =>
                                  intro w hSw
                                  (try dsimp only at hSw)
                                  go_simp
                                  (try with_reducible rfl)
                                simp only [Act.put, List.setIfInBounds_toArray, List.set_cons_zero, List.set_cons_succ]
                                refine wpAnyH_take (i := 13) (oi := { dst := some 102, op := Go.Op.move (Go.Operand.tmp 11), type := 3, pos := "l2_plan.go:91", after := #[{ on := 3, ground := Go.Ground.guard }], guard := some (3, false) }) (v := ?vvd13) rfl (by kernel_rfl) (by kernel_rfl) (by kernel_rfl) (fun _ _ _ h => h) (Or.inl ⟨by rfl, ?hyd13⟩) (by assumption) ?restd13
                                case hyd13 =>
                                  intro w hSw
                                  (try dsimp only at hSw)
                                  go_simp
                                  (try with_reducible rfl)
                                simp only [Act.put, List.setIfInBounds_toArray, List.set_cons_zero, List.set_cons_succ]
                                refine wpAnyH_take (i := 14) (oi := { dst := some 103, op := Go.Op.indexAddr 24 (Go.Operand.tmp 101) (Go.Operand.tmp 102), type := 0, pos := "l2_plan.go:91", after := #[{ on := 12, ground := Go.Ground.data }, { on := 13, ground := Go.Ground.data }, { on := 3, ground := Go.Ground.guard }], guard := some (3, false) }) (v := ?vvd14) rfl (by kernel_rfl) (by kernel_rfl) (by kernel_rfl) (fun _ _ _ h => h) (Or.inl ⟨by rfl, ?hyd14⟩) (by assumption) ?restd14
                                case hyd14 =>
                                  intro w hSw
                                  (try dsimp only at hSw)
                                  go_simp
                                  (try with_reducible rfl)
                                simp only [Act.put, List.setIfInBounds_toArray, List.set_cons_zero, List.set_cons_succ]
                                refine wpAnyH_take (i := 15) (oi := { dst := some 104, op := Go.Op.load 72 (Go.Operand.tmp 103), type := 72, pos := "l2_plan.go:91", after := #[{ on := 14, ground := Go.Ground.data }, { on := 3, ground := Go.Ground.guard }], guard := some (3, false) }) (v := ?vvd15) rfl (by kernel_rfl) (by kernel_rfl) (by kernel_rfl) (fun _ _ _ h => h) (Or.inl ⟨by rfl, ?hyd15⟩) (by assumption) ?restd15
                                case hyd15 =>
                                  intro w hSw
                                  (try dsimp only at hSw)
                                  go_simp
                                  (try with_reducible rfl)
                                simp only [Act.put, List.setIfInBounds_toArray, List.set_cons_zero, List.set_cons_succ]
                                refine wpAnyH_take (i := 16) (oi := { dst := some 105, op := Go.Op.move (Go.Operand.tmp 12), type := 3, pos := "l2_plan.go:91", after := #[{ on := 3, ground := Go.Ground.guard }], guard := some (3, false) }) (v := ?vvd16) rfl (by kernel_rfl) (by kernel_rfl) (by kernel_rfl) (fun _ _ _ h => h) (Or.inl ⟨by rfl, ?hyd16⟩) (by assumption) ?restd16
                                case hyd16 =>
                                  intro w hSw
                                  (try dsimp only at hSw)
                                  go_simp
                                  (try with_reducible rfl)
                                simp only [Act.put, List.setIfInBounds_toArray, List.set_cons_zero, List.set_cons_succ]
                                refine wpAnyH_ready (rs := [10]) (by kernel_rfl) (by simp) ?_
                                refine AllReadyH.cons (o := { dst := some 99, op := Go.Op.call { callee := Go.Callee.value (Go.Operand.func 32), args := #[Go.Operand.tmp 97, Go.Operand.tmp 98], argTypes := #[72, 3] }, type := 3, pos := "l2_plan.go:91", after := #[{ on := 8, ground := Go.Ground.data }, { on := 9, ground := Go.Ground.data }, { on := 3, ground := Go.Ground.chain }, { on := 3, ground := Go.Ground.guard }], guard := some (3, false) }) rfl (fun K hK => ?_) AllReadyH.nil
                                go_simp
                                refine (l2track_any (f i) k _ _ _ hlt2 hni hlg).mono ?_
                                rintro _ W6 ⟨rfl, hB6⟩
                                replace hlg' := hlg'.grow hB6
                                have hD6 := Below.join hD0 (Nat.le_refl _) hB6
                                refine hK.out _ _ (hSS _ hD6) (fun hHeld => ?_)
                                clear hK K
                                (try simp only [Act.put, List.setIfInBounds_toArray, List.set_cons_zero, List.set_cons_succ])
                                refine wpAnyH_ready (rs := [17]) (by kernel_rfl) (by simp) ?_
                                refine AllReadyH.cons (o := { dst := some 106, op := Go.Op.call { callee := Go.Callee.value (Go.Operand.func 32), args := #[Go.Operand.tmp 104, Go.Operand.tmp 105], argTypes := #[72, 3] }, type := 3, pos := "l2_plan.go:91", after := #[{ on := 15, ground := Go.Ground.data }, { on := 16, ground := Go.Ground.data }, { on := 10, ground := Go.Ground.chain }, { on := 3, ground := Go.Ground.guard }], guard := some (3, false) }) rfl (fun K hK => ?_) AllReadyH.nil
                                go_simp
                                refine (l2track_any (f j) m _ _ _ hlt4 hnj hlg').mono ?_
                                rintro _ W7 ⟨rfl, hB7⟩
                                have hD7 := Below.join hD6 (Nat.le_refl _) hB7
                                refine hK.out _ _ (hSS _ hD7) (fun hHeld => ?_)
                                clear hK K
                                (try simp only [Act.put, List.setIfInBounds_toArray, List.set_cons_zero, List.set_cons_succ])
                                refine wpAnyH_take (i := 18) (oi := { dst := some 107, op := Go.Op.binOp Go.BinOp.neq 3 (Go.Operand.tmp 99) (Go.Operand.tmp 106) 3, type := 4, pos := "l2_plan.go:91", after := #[{ on := 10, ground := Go.Ground.data }, { on := 17, ground := Go.Ground.data }, { on := 3, ground := Go.Ground.guard }], guard := some (3, false) }) (v := ?vvd18) rfl (by kernel_rfl) (by kernel_rfl) (by kernel_rfl) (fun _ _ _ h => h) (Or.inl ⟨by rfl, ?hyd18⟩) (by assumption) ?restd18
                                case hyd18 =>
                                  intro w hSw
                                  (try dsimp only at hSw)
                                  go_simp
                                  (try with_reducible rfl)
                                simp only [Act.put, List.setIfInBounds_toArray, List.set_cons_zero, List.set_cons_succ]
                                refine wpAnyH_take (i := 19) (oi := { dst := some 108, op := Go.Op.pick (Go.Operand.tmp 92) (Go.Operand.const (Go.Value.bool true)) (Go.Operand.tmp 107), type := 4, pos := "l2_plan.go:91", after := #[{ on := 3, ground := Go.Ground.data }, { on := 18, ground := Go.Ground.data }], guard := none }) (v := ?vvd19) rfl (by kernel_rfl) (by kernel_rfl) (by kernel_rfl) (fun _ _ _ h => h) (Or.inl ⟨by rfl, ?hyd19⟩) (by assumption) ?restd19
                                case hyd19 =>
                                  intro w hSw
                                  (try dsimp only at hSw)
                                  go_simp
                                  (try with_reducible rfl)
                                simp only [Act.put, List.setIfInBounds_toArray, List.set_cons_zero, List.set_cons_succ]
                                refine wpAnyH_take (i := 20) (oi := { dst := some 109, op := Go.Op.move (Go.Operand.tmp 108), type := 4, pos := "l2_plan.go:91", after := #[{ on := 19, ground := Go.Ground.data }, { on := 17, ground := Go.Ground.chain }], guard := none }) (v := ?vvd20) rfl (by kernel_rfl) (by kernel_rfl) (by kernel_rfl) (fun _ _ _ h => h) (Or.inl ⟨by rfl, ?hyd20⟩) (by assumption) ?restd20
                                case hyd20 =>
                                  intro w hSw
                                  (try dsimp only at hSw)
                                  go_simp
                                  (try with_reducible rfl)
                                simp only [Act.put, List.setIfInBounds_toArray, List.set_cons_zero, List.set_cons_succ]
                                refine wpAnyH_take (i := 21) (oi := { dst := some 110, op := Go.Op.move (Go.Operand.tmp 13), type := 3, pos := "l2_plan.go:91", after := #[{ on := 20, ground := Go.Ground.guard }], guard := some (20, false) }) (v := ?vvd21) rfl (by kernel_rfl) (by kernel_rfl) (by kernel_rfl) (fun _ _ _ h => h) (Or.inl ⟨by rfl, ?hyd21⟩) (by assumption) ?restd21
                                case hyd21 =>
                                  intro w hSw
                                  (try dsimp only at hSw)
                                  go_simp
                                  (try with_reducible rfl)
                                simp only [Act.put, List.setIfInBounds_toArray, List.set_cons_zero, List.set_cons_succ]
                                refine wpAnyH_take (i := 22) (oi := { dst := some 111, op := Go.Op.move (Go.Operand.tmp 10), type := 3, pos := "l2_plan.go:91", after := #[{ on := 20, ground := Go.Ground.guard }], guard := some (20, false) }) (v := ?vvd22) rfl (by kernel_rfl) (by kernel_rfl) (by kernel_rfl) (fun _ _ _ h => h) (Or.inl ⟨by rfl, ?hyd22⟩) (by assumption) ?restd22
                                case hyd22 =>
                                  intro w hSw
                                  (try dsimp only at hSw)
                                  go_simp
                                  (try with_reducible rfl)
                                simp only [Act.put, List.setIfInBounds_toArray, List.set_cons_zero, List.set_cons_succ]
                                refine wpAnyH_take (i := 23) (oi := { dst := some 112, op := Go.Op.binOp Go.BinOp.gtr 3 (Go.Operand.tmp 110) (Go.Operand.tmp 111) 3, type := 4, pos := "l2_plan.go:91", after := #[{ on := 21, ground := Go.Ground.data }, { on := 22, ground := Go.Ground.data }, { on := 20, ground := Go.Ground.guard }], guard := some (20, false) }) (v := ?vvd23) rfl (by kernel_rfl) (by kernel_rfl) (by kernel_rfl) (fun _ _ _ h => h) (Or.inl ⟨by rfl, ?hyd23⟩) (by assumption) ?restd23
                                case hyd23 =>
                                  intro w hSw
                                  (try dsimp only at hSw)
                                  go_simp
                                  (try with_reducible rfl)
                                simp only [Act.put, List.setIfInBounds_toArray, List.set_cons_zero, List.set_cons_succ]
                                refine wpAnyH_take (i := 24) (oi := { dst := some 113, op := Go.Op.pick (Go.Operand.tmp 109) (Go.Operand.const (Go.Value.bool true)) (Go.Operand.tmp 112), type := 4, pos := "l2_plan.go:91", after := #[{ on := 20, ground := Go.Ground.data }, { on := 23, ground := Go.Ground.data }], guard := none }) (v := ?vvd24) rfl (by kernel_rfl) (by kernel_rfl) (by kernel_rfl) (fun _ _ _ h => h) (Or.inl ⟨by rfl, ?hyd24⟩) (by assumption) ?restd24
                                case hyd24 =>
                                  intro w hSw
                                  (try dsimp only at hSw)
                                  go_simp
                                  (try with_reducible rfl)
                                simp only [Act.put, List.setIfInBounds_toArray, List.set_cons_zero, List.set_cons_succ]
                                refine wpAnyH_take (i := 25) (oi := { dst := some 114, op := Go.Op.move (Go.Operand.tmp 113), type := 4, pos := "l2_plan.go:91", after := #[{ on := 24, ground := Go.Ground.data }, { on := 20, ground := Go.Ground.chain }], guard := none }) (v := ?vvd25) rfl (by kernel_rfl) (by kernel_rfl) (by kernel_rfl) (fun _ _ _ h => h) (Or.inl ⟨by rfl, ?hyd25⟩) (by assumption) ?restd25
                                case hyd25 =>
                                  intro w hSw
                                  (try dsimp only at hSw)
                                  go_simp
                                  (try with_reducible rfl)
                                simp only [Act.put, List.setIfInBounds_toArray, List.set_cons_zero, List.set_cons_succ]
                                refine wpAnyH_take (i := 26) (oi := { dst := some 115, op := Go.Op.move (Go.Operand.tmp 13), type := 3, pos := "l2_plan.go:91", after := #[{ on := 25, ground := Go.Ground.guard }], guard := some (25, false) }) (v := ?vvd26) rfl (by kernel_rfl) (by kernel_rfl) (by kernel_rfl) (fun _ _ _ h => h) (Or.inl ⟨by rfl, ?hyd26⟩) (by assumption) ?restd26
                                case hyd26 =>
                                  intro w hSw
                                  (try dsimp only at hSw)
                                  go_simp
                                  (try with_reducible rfl)
                                simp only [Act.put, List.setIfInBounds_toArray, List.set_cons_zero, List.set_cons_succ]
                                refine wpAnyH_take (i := 27) (oi := { dst := some 116, op := Go.Op.move (Go.Operand.tmp 10), type := 3, pos := "l2_plan.go:91", after := #[{ on := 25, ground := Go.Ground.guard }], guard := some (25, false) }) (v := ?vvd27) rfl (by kernel_rfl) (by kernel_rfl) (by kernel_rfl) (fun _ _ _ h => h) (Or.inl ⟨by rfl, ?hyd27⟩) (by assumption) ?restd27
                                case hyd27 =>
                                  intro w hSw
                                  (try dsimp only at hSw)
                                  go_simp
                                  (try with_reducible rfl)
                                simp only [Act.put, List.setIfInBounds_toArray, List.set_cons_zero, List.set_cons_succ]
                                refine wpAnyH_take (i := 28) (oi := { dst := some 117, op := Go.Op.binOp Go.BinOp.eql 3 (Go.Operand.tmp 115) (Go.Operand.tmp 116) 3, type := 4, pos := "l2_plan.go:91", after := #[{ on := 26, ground := Go.Ground.data }, { on := 27, ground := Go.Ground.data }, { on := 25, ground := Go.Ground.guard }], guard := some (25, false) }) (v := ?vvd28) rfl (by kernel_rfl) (by kernel_rfl) (by kernel_rfl) (fun _ _ _ h => h) (Or.inl ⟨by rfl, ?hyd28⟩) (by assumption) ?restd28
                                case hyd28 =>
                                  intro w hSw
                                  (try dsimp only at hSw)
                                  go_simp
                                  (try with_reducible rfl)
                                simp only [Act.put, List.setIfInBounds_toArray, List.set_cons_zero, List.set_cons_succ]
                                refine wpAnyH_take (i := 29) (oi := { dst := some 118, op := Go.Op.move (Go.Operand.tmp 117), type := 4, pos := "l2_plan.go:91", after := #[{ on := 28, ground := Go.Ground.data }, { on := 25, ground := Go.Ground.chain }, { on := 25, ground := Go.Ground.guard }], guard := some (25, false) }) (v := ?vvd29) rfl (by kernel_rfl) (by kernel_rfl) (by kernel_rfl) (fun _ _ _ h => h) (Or.inl ⟨by rfl, ?hyd29⟩) (by assumption) ?restd29
                                case hyd29 =>
                                  intro w hSw
                                  (try dsimp only at hSw)
                                  go_simp
                                  (try with_reducible rfl)
                                simp only [Act.put, List.setIfInBounds_toArray, List.set_cons_zero, List.set_cons_succ]
                                refine wpAnyH_take (i := 30) (oi := { dst := some 119, op := Go.Op.move (Go.Operand.tmp 11), type := 3, pos := "l2_plan.go:91", after := #[{ on := 29, ground := Go.Ground.guard }], guard := some (29, true) }) (v := ?vvd30) rfl (by kernel_rfl) (by kernel_rfl) (by kernel_rfl) (fun _ _ _ h => h) (Or.inl ⟨by rfl, ?hyd30⟩) (by assumption) ?restd30
                                case hyd30 =>
                                  intro w hSw
                                  (try dsimp only at hSw)
                                  go_simp
                                  (try with_reducible rfl)
                                simp only [Act.put, List.setIfInBounds_toArray, List.set_cons_zero, List.set_cons_succ]
                                refine wpAnyH_take (i := 31) (oi := { dst := some 120, op := Go.Op.move (Go.Operand.tmp 8), type := 3, pos := "l2_plan.go:91", after := #[{ on := 29, ground := Go.Ground.guard }], guard := some (29, true) }) (v := ?vvd31) rfl (by kernel_rfl) (by kernel_rfl) (by kernel_rfl) (fun _ _ _ h => h) (Or.inl ⟨by rfl, ?hyd31⟩) (by assumption) ?restd31
                                case hyd31 =>
                                  intro w hSw
                                  (try dsimp only at hSw)
                                  go_simp
                                  (try with_reducible rfl)
                                simp only [Act.put, List.setIfInBounds_toArray, List.set_cons_zero, List.set_cons_succ]
                                refine wpAnyH_take (i := 32) (oi := { dst := some 121, op := Go.Op.binOp Go.BinOp.gtr 3 (Go.Operand.tmp 119) (Go.Operand.tmp 120) 3, type := 4, pos := "l2_plan.go:91", after := #[{ on := 30, ground := Go.Ground.data }, { on := 31, ground := Go.Ground.data }, { on := 29, ground := Go.Ground.guard }], guard := some (29, true) }) (v := ?vvd32) rfl (by kernel_rfl) (by kernel_rfl) (by kernel_rfl) (fun _ _ _ h => h) (Or.inl ⟨by rfl, ?hyd32⟩) (by assumption) ?restd32
                                case hyd32 =>
                                  intro w hSw
                                  (try dsimp only at hSw)
                                  go_simp
                                  (try with_reducible rfl)
                                simp only [Act.put, List.setIfInBounds_toArray, List.set_cons_zero, List.set_cons_succ]
                                refine wpAnyH_take (i := 33) (oi := { dst := some 122, op := Go.Op.pick (Go.Operand.tmp 118) (Go.Operand.tmp 121) (Go.Operand.const (Go.Value.bool false)), type := 4, pos := "l2_plan.go:91", after := #[{ on := 29, ground := Go.Ground.data }, { on := 32, ground := Go.Ground.data }, { on := 25, ground := Go.Ground.guard }], guard := some (25, false) }) (v := ?vvd33) rfl (by kernel_rfl) (by kernel_rfl) (by kernel_rfl) (fun _ _ _ h => h) (Or.inl ⟨by rfl, ?hyd33⟩) (by assumption) ?restd33
                                case hyd33 =>
                                  intro w hSw
                                  (try dsimp only at hSw)
                                  go_simp
                                  (try with_reducible rfl)
                                simp only [Act.put, List.setIfInBounds_toArray, List.set_cons_zero, List.set_cons_succ]
                                refine wpAnyH_take (i := 34) (oi := { dst := some 123, op := Go.Op.pick (Go.Operand.tmp 114) (Go.Operand.const (Go.Value.bool true)) (Go.Operand.tmp 122), type := 4, pos := "l2_plan.go:91", after := #[{ on := 25, ground := Go.Ground.data }, { on := 33, ground := Go.Ground.data }], guard := none }) (v := ?vvd34) rfl (by kernel_rfl) (by kernel_rfl) (by kernel_rfl) (fun _ _ _ h => h) (Or.inl ⟨by rfl, ?hyd34⟩) (by assumption) ?restd34
                                case hyd34 =>
                                  intro w hSw
                                  (try dsimp only at hSw)
                                  go_simp
                                  (try with_reducible rfl)
                                simp only [Act.put, List.setIfInBounds_toArray, List.set_cons_zero, List.set_cons_succ]
                                refine wpAnyH_done (by kernel_rfl) ?_ _
                                have hJ := hD7
                                have hszB := hB.size
                                replace hX := hX.later hJ
                                replace hB := Below.join hB (Nat.le_refl _) hJ
                                replace t4' := cellLater hJ t4'
                                replace g1 := cellLater hJ g1
                                replace hinj := hinj.below hJ hszB
                                have y1 := hX.l1
                                have y2 := hX.l2
                                clear hJ hSS hS0 hD0 hD6 hD7 hszB t0 t1 t2 t3 t4 t0' t1' t2' t3' x2
                                go_wp2
                                by_cases hbad : (P i).s k < (P j).s m + ((f j).leg m).run + gap
                                · have hon : onB gap f P i k j m = true := decide_eq_true ⟨hij, htk.out, by omega, hcj.out, hbad⟩
                                  have hve := hv.out.symm.trans (clashOf_three hF.out hS h2 hlt hlt2 (withOf_some hlt3 hlt4 hon hall4 hall3) hall2 hall)
                                  go_region_held3 (fun w' => w'.cell? ⟨w.heap.size, 2, none⟩ = some (.slice (some ⟨b, off, none⟩) np cap') ∧ w'.cell? ⟨b, off + j * 5 + 4, none⟩ = some (.slice (some ⟨bl, ol, none⟩) (f j).nl lc') ∧ w'.cell? ⟨bl, ol + m * 3 + 1, none⟩ = some (.int .i64 ((f j).leg m).run) ∧ w'.cell? ⟨w.heap.size, 1, none⟩ = some (.int .i64 gap)) (go_keep) (fail)
                                  have r0 := hX.r0
                                  have r1 := hX.r1
                                  have r2 := hX.r2
                                  have r3 := hX.r3
                                  have z0 := hX.z0
                                  have z1 := hX.z1
                                  have z2 := hX.z2
                                  have z3 := hX.z3
                                  go_wp2
                                  refine bodyPost_ret (v := .agg #[.int .i64 3, .int .i64 i, .int .i64 k, .int .i64 j]) (by simp [results, Tryz.results8, go_sem, r0, r1, r2, r3]) rfl ⟨by rw [hve], ?_⟩
                                  exact below_set4 hB.drew (by omega) _ _ _ _
                                · have hon : onB gap f P i k j m = false := decide_eq_false (fun h => hbad h.2.2.2.2)
                                  go_region_held3 (fun w' => w'.cell? ⟨w.heap.size, 2, none⟩ = some (.slice (some ⟨b, off, none⟩) np cap') ∧ w'.cell? ⟨b, off + j * 5 + 4, none⟩ = some (.slice (some ⟨bl, ol, none⟩) (f j).nl lc') ∧ w'.cell? ⟨bl, ol + m * 3 + 1, none⟩ = some (.int .i64 ((f j).leg m).run) ∧ w'.cell? ⟨w.heap.size, 1, none⟩ = some (.int .i64 gap)) (go_keep) (fail)
                                  go_wp2
                                  go_roundw
                                  case rel => exact ⟨m + 1, by omega, by go_num, fun q hq => (by by_cases e : q = m; (· subst e; exact hon); (· exact hall4 q (by omega))), hX.later (Below.refl _ _).drew, hB.drew, hinj⟩
                                  case measure => simp [intOf]; omega
                            · have hrb : ((P j).s m == (P i).s k) = false := by simpa using hrs
                              have hcj : Hid (¬ ((P j).s m = (P i).s k ∧ i < j)) := (fun h => hrs h.1)
                              go_wp2
                              refine wp_region_held_drew (S := (fun w' => w'.cell? ⟨w.heap.size, 2, none⟩ = some (.slice (some ⟨b, off, none⟩) np cap') ∧ w'.cell? ⟨b, off + i * 5, none⟩ = some (.int .i64 (f i).frm) ∧ w'.cell? ⟨b, off + i * 5 + 1, none⟩ = some (.int .i64 (f i).ready) ∧ w'.cell? ⟨b, off + i * 5 + 2, none⟩ = some (.int .i64 (f i).due) ∧ w'.cell? ⟨b, off + i * 5 + 3, none⟩ = some (.int .i64 (f i).weight) ∧ w'.cell? ⟨b, off + i * 5 + 4, none⟩ = some (.slice la (f i).nl lc) ∧ w'.cell? ⟨b, off + j * 5, none⟩ = some (.int .i64 (f j).frm) ∧ w'.cell? ⟨b, off + j * 5 + 1, none⟩ = some (.int .i64 (f j).ready) ∧ w'.cell? ⟨b, off + j * 5 + 2, none⟩ = some (.int .i64 (f j).due) ∧ w'.cell? ⟨b, off + j * 5 + 3, none⟩ = some (.int .i64 (f j).weight) ∧ w'.cell? ⟨b, off + j * 5 + 4, none⟩ = some (.slice (some ⟨bl, ol, none⟩) (f j).nl lc'))) (by kernel_rfl) hS0 (fun hHeld => ?_)
                              refine wpAnyH_take (i := 0) (oi := { dst := some 89, op := Go.Op.move (Go.Operand.tmp 8), type := 3, pos := "l2_plan.go:91", after := #[], guard := none }) (v := ?vve0) rfl (by kernel_rfl) (by kernel_rfl) (by kernel_rfl) (fun _ _ _ h => h) (Or.inl ⟨by rfl, ?hye0⟩) (by assumption) ?reste0
                              case hye0 =>
                                intro w hSw
                                (try dsimp only at hSw)
                                go_simp
                                (try with_reducible rfl)
                              simp only [Act.put, List.setIfInBounds_toArray, List.set_cons_zero, List.set_cons_succ]
                              refine wpAnyH_take (i := 1) (oi := { dst := some 90, op := Go.Op.move (Go.Operand.tmp 11), type := 3, pos := "l2_plan.go:91", after := #[], guard := none }) (v := ?vve1) rfl (by kernel_rfl) (by kernel_rfl) (by kernel_rfl) (fun _ _ _ h => h) (Or.inl ⟨by rfl, ?hye1⟩) (by assumption) ?reste1
                              case hye1 =>
                                intro w hSw
                                (try dsimp only at hSw)
                                go_simp
                                (try with_reducible rfl)
                              simp only [Act.put, List.setIfInBounds_toArray, List.set_cons_zero, List.set_cons_succ]
                              refine wpAnyH_take (i := 2) (oi := { dst := some 91, op := Go.Op.binOp Go.BinOp.eql 3 (Go.Operand.tmp 89) (Go.Operand.tmp 90) 3, type := 4, pos := "l2_plan.go:91", after := #[{ on := 0, ground := Go.Ground.data }, { on := 1, ground := Go.Ground.data }], guard := none }) (v := ?vve2) rfl (by kernel_rfl) (by kernel_rfl) (by kernel_rfl) (fun _ _ _ h => h) (Or.inl ⟨by rfl, ?hye2⟩) (by assumption) ?reste2
                              case hye2 =>
                                intro w hSw
                                (try dsimp only at hSw)
                                go_simp
                                (try with_reducible rfl)
                              simp only [Act.put, List.setIfInBounds_toArray, List.set_cons_zero, List.set_cons_succ]
                              refine wpAnyH_take (i := 3) (oi := { dst := some 92, op := Go.Op.move (Go.Operand.tmp 91), type := 4, pos := "l2_plan.go:91", after := #[{ on := 2, ground := Go.Ground.data }], guard := none }) (v := ?vve3) rfl (by kernel_rfl) (by kernel_rfl) (by kernel_rfl) (fun _ _ _ h => h) (Or.inl ⟨by rfl, ?hye3⟩) (by assumption) ?reste3
                              case hye3 =>
                                intro w hSw
                                (try dsimp only at hSw)
                                go_simp
                                (try with_reducible rfl)
                              simp only [Act.put, List.setIfInBounds_toArray, List.set_cons_zero, List.set_cons_succ]
                              refine wpAnyH_take (i := 4) (oi := { dst := some 93, op := Go.Op.fieldAddr 26 (Go.Operand.tmp 2) 2, type := 0, pos := "l2_plan.go:91", after := #[{ on := 3, ground := Go.Ground.guard }], guard := some (3, false) }) (v := ?vve4) rfl (by kernel_rfl) (by kernel_rfl) (by kernel_rfl) (fun _ _ _ h => h) (Or.inl ⟨by rfl, ?hye4⟩) (by assumption) ?reste4
                              case hye4 =>
                                intro w hSw
                                (try dsimp only at hSw)
                                go_simp
                                (try with_reducible rfl)
                              simp only [Act.put, List.setIfInBounds_toArray, List.set_cons_zero, List.set_cons_succ]
                              refine wpAnyH_take (i := 5) (oi := { dst := some 94, op := Go.Op.load 24 (Go.Operand.tmp 93), type := 24, pos := "l2_plan.go:91", after := #[{ on := 4, ground := Go.Ground.data }, { on := 3, ground := Go.Ground.guard }], guard := some (3, false) }) (v := ?vve5) rfl (by kernel_rfl) (by kernel_rfl) (by kernel_rfl) (fun _ _ _ h => h) (Or.inl ⟨by rfl, ?hye5⟩) (by assumption) ?reste5
                              case hye5 =>
                                intro w hSw
                                (try dsimp only at hSw)
                                go_simp
                                (try with_reducible rfl)
                              simp only [Act.put, List.setIfInBounds_toArray, List.set_cons_zero, List.set_cons_succ]
                              refine wpAnyH_take (i := 6) (oi := { dst := some 95, op := Go.Op.move (Go.Operand.tmp 8), type := 3, pos := "l2_plan.go:91", after := #[{ on := 3, ground := Go.Ground.guard }], guard := some (3, false) }) (v := ?vve6) rfl (by kernel_rfl) (by kernel_rfl) (by kernel_rfl) (fun _ _ _ h => h) (Or.inl ⟨by rfl, ?hye6⟩) (by assumption) ?reste6
                              case hye6 =>
                                intro w hSw
                                (try dsimp only at hSw)
                                go_simp
                                (try with_reducible rfl)
                              simp only [Act.put, List.setIfInBounds_toArray, List.set_cons_zero, List.set_cons_succ]
                              refine wpAnyH_take (i := 7) (oi := { dst := some 96, op := Go.Op.indexAddr 24 (Go.Operand.tmp 94) (Go.Operand.tmp 95), type := 0, pos := "l2_plan.go:91", after := #[{ on := 5, ground := Go.Ground.data }, { on := 6, ground := Go.Ground.data }, { on := 3, ground := Go.Ground.guard }], guard := some (3, false) }) (v := ?vve7) rfl (by kernel_rfl) (by kernel_rfl) (by kernel_rfl) (fun _ _ _ h => h) (Or.inl ⟨by rfl, ?hye7⟩) (by assumption) ?reste7
                              case hye7 =>
                                intro w hSw
                                (try dsimp only at hSw)
                                go_simp
                                (try with_reducible rfl)
                              simp only [Act.put, List.setIfInBounds_toArray, List.set_cons_zero, List.set_cons_succ]
                              refine wpAnyH_take (i := 8) (oi := { dst := some 97, op := Go.Op.load 72 (Go.Operand.tmp 96), type := 72, pos := "l2_plan.go:91", after := #[{ on := 7, ground := Go.Ground.data }, { on := 3, ground := Go.Ground.guard }], guard := some (3, false) }) (v := ?vve8) rfl (by kernel_rfl) (by kernel_rfl) (by kernel_rfl) (fun _ _ _ h => h) (Or.inl ⟨by rfl, ?hye8⟩) (by assumption) ?reste8
                              case hye8 =>
                                intro w hSw
                                (try dsimp only at hSw)
                                go_simp
                                (try with_reducible rfl)
                              simp only [Act.put, List.setIfInBounds_toArray, List.set_cons_zero, List.set_cons_succ]
                              refine wpAnyH_take (i := 9) (oi := { dst := some 98, op := Go.Op.move (Go.Operand.tmp 9), type := 3, pos := "l2_plan.go:91", after := #[{ on := 3, ground := Go.Ground.guard }], guard := some (3, false) }) (v := ?vve9) rfl (by kernel_rfl) (by kernel_rfl) (by kernel_rfl) (fun _ _ _ h => h) (Or.inl ⟨by rfl, ?hye9⟩) (by assumption) ?reste9
                              case hye9 =>
                                intro w hSw
                                (try dsimp only at hSw)
                                go_simp
                                (try with_reducible rfl)
                              simp only [Act.put, List.setIfInBounds_toArray, List.set_cons_zero, List.set_cons_succ]
                              refine wpAnyH_take (i := 11) (oi := { dst := some 100, op := Go.Op.fieldAddr 26 (Go.Operand.tmp 2) 2, type := 0, pos := "l2_plan.go:91", after := #[{ on := 3, ground := Go.Ground.guard }], guard := some (3, false) }) (v := ?vve11) rfl (by kernel_rfl) (by kernel_rfl) (by kernel_rfl) (fun _ _ _ h => h) (Or.inl ⟨by rfl, ?hye11⟩) (by assumption) ?reste11
                              case hye11 =>
                                intro w hSw
                                (try dsimp only at hSw)
                                go_simp
                                (try with_reducible rfl)
                              simp only [Act.put, List.setIfInBounds_toArray, List.set_cons_zero, List.set_cons_succ]
                              refine wpAnyH_take (i := 12) (oi := { dst := some 101, op := Go.Op.load 24 (Go.Operand.tmp 100), type := 24, pos := "l2_plan.go:91", after := #[{ on := 11, ground := Go.Ground.data }, { on := 3, ground := Go.Ground.guard }], guard := some (3, false) }) (v := ?vve12) rfl (by kernel_rfl) (by kernel_rfl) (by kernel_rfl) (fun _ _ _ h => h) (Or.inl ⟨by rfl, ?hye12⟩) (by assumption) ?reste12
                              case hye12 =>
                                intro w hSw
                                (try dsimp only at hSw)
                                go_simp
                                (try with_reducible rfl)
                              simp only [Act.put, List.setIfInBounds_toArray, List.set_cons_zero, List.set_cons_succ]
                              refine wpAnyH_take (i := 13) (oi := { dst := some 102, op := Go.Op.move (Go.Operand.tmp 11), type := 3, pos := "l2_plan.go:91", after := #[{ on := 3, ground := Go.Ground.guard }], guard := some (3, false) }) (v := ?vve13) rfl (by kernel_rfl) (by kernel_rfl) (by kernel_rfl) (fun _ _ _ h => h) (Or.inl ⟨by rfl, ?hye13⟩) (by assumption) ?reste13
                              case hye13 =>
                                intro w hSw
                                (try dsimp only at hSw)
                                go_simp
                                (try with_reducible rfl)
                              simp only [Act.put, List.setIfInBounds_toArray, List.set_cons_zero, List.set_cons_succ]
                              refine wpAnyH_take (i := 14) (oi := { dst := some 103, op := Go.Op.indexAddr 24 (Go.Operand.tmp 101) (Go.Operand.tmp 102), type := 0, pos := "l2_plan.go:91", after := #[{ on := 12, ground := Go.Ground.data }, { on := 13, ground := Go.Ground.data }, { on := 3, ground := Go.Ground.guard }], guard := some (3, false) }) (v := ?vve14) rfl (by kernel_rfl) (by kernel_rfl) (by kernel_rfl) (fun _ _ _ h => h) (Or.inl ⟨by rfl, ?hye14⟩) (by assumption) ?reste14
                              case hye14 =>
                                intro w hSw
                                (try dsimp only at hSw)
                                go_simp
                                (try with_reducible rfl)
                              simp only [Act.put, List.setIfInBounds_toArray, List.set_cons_zero, List.set_cons_succ]
                              refine wpAnyH_take (i := 15) (oi := { dst := some 104, op := Go.Op.load 72 (Go.Operand.tmp 103), type := 72, pos := "l2_plan.go:91", after := #[{ on := 14, ground := Go.Ground.data }, { on := 3, ground := Go.Ground.guard }], guard := some (3, false) }) (v := ?vve15) rfl (by kernel_rfl) (by kernel_rfl) (by kernel_rfl) (fun _ _ _ h => h) (Or.inl ⟨by rfl, ?hye15⟩) (by assumption) ?reste15
                              case hye15 =>
                                intro w hSw
                                (try dsimp only at hSw)
                                go_simp
                                (try with_reducible rfl)
                              simp only [Act.put, List.setIfInBounds_toArray, List.set_cons_zero, List.set_cons_succ]
                              refine wpAnyH_take (i := 16) (oi := { dst := some 105, op := Go.Op.move (Go.Operand.tmp 12), type := 3, pos := "l2_plan.go:91", after := #[{ on := 3, ground := Go.Ground.guard }], guard := some (3, false) }) (v := ?vve16) rfl (by kernel_rfl) (by kernel_rfl) (by kernel_rfl) (fun _ _ _ h => h) (Or.inl ⟨by rfl, ?hye16⟩) (by assumption) ?reste16
                              case hye16 =>
                                intro w hSw
                                (try dsimp only at hSw)
                                go_simp
                                (try with_reducible rfl)
                              simp only [Act.put, List.setIfInBounds_toArray, List.set_cons_zero, List.set_cons_succ]
                              refine wpAnyH_ready (rs := [10]) (by kernel_rfl) (by simp) ?_
                              refine AllReadyH.cons (o := { dst := some 99, op := Go.Op.call { callee := Go.Callee.value (Go.Operand.func 32), args := #[Go.Operand.tmp 97, Go.Operand.tmp 98], argTypes := #[72, 3] }, type := 3, pos := "l2_plan.go:91", after := #[{ on := 8, ground := Go.Ground.data }, { on := 9, ground := Go.Ground.data }, { on := 3, ground := Go.Ground.chain }, { on := 3, ground := Go.Ground.guard }], guard := some (3, false) }) rfl (fun K hK => ?_) AllReadyH.nil
                              go_simp
                              refine (l2track_any (f i) k _ _ _ hlt2 hni hlg).mono ?_
                              rintro _ W6 ⟨rfl, hB6⟩
                              replace hlg' := hlg'.grow hB6
                              have hD6 := Below.join hD0 (Nat.le_refl _) hB6
                              refine hK.out _ _ (hSS _ hD6) (fun hHeld => ?_)
                              clear hK K
                              (try simp only [Act.put, List.setIfInBounds_toArray, List.set_cons_zero, List.set_cons_succ])
                              refine wpAnyH_ready (rs := [17]) (by kernel_rfl) (by simp) ?_
                              refine AllReadyH.cons (o := { dst := some 106, op := Go.Op.call { callee := Go.Callee.value (Go.Operand.func 32), args := #[Go.Operand.tmp 104, Go.Operand.tmp 105], argTypes := #[72, 3] }, type := 3, pos := "l2_plan.go:91", after := #[{ on := 15, ground := Go.Ground.data }, { on := 16, ground := Go.Ground.data }, { on := 10, ground := Go.Ground.chain }, { on := 3, ground := Go.Ground.guard }], guard := some (3, false) }) rfl (fun K hK => ?_) AllReadyH.nil
                              go_simp
                              refine (l2track_any (f j) m _ _ _ hlt4 hnj hlg').mono ?_
                              rintro _ W7 ⟨rfl, hB7⟩
                              have hD7 := Below.join hD6 (Nat.le_refl _) hB7
                              refine hK.out _ _ (hSS _ hD7) (fun hHeld => ?_)
                              clear hK K
                              (try simp only [Act.put, List.setIfInBounds_toArray, List.set_cons_zero, List.set_cons_succ])
                              refine wpAnyH_take (i := 18) (oi := { dst := some 107, op := Go.Op.binOp Go.BinOp.neq 3 (Go.Operand.tmp 99) (Go.Operand.tmp 106) 3, type := 4, pos := "l2_plan.go:91", after := #[{ on := 10, ground := Go.Ground.data }, { on := 17, ground := Go.Ground.data }, { on := 3, ground := Go.Ground.guard }], guard := some (3, false) }) (v := ?vve18) rfl (by kernel_rfl) (by kernel_rfl) (by kernel_rfl) (fun _ _ _ h => h) (Or.inl ⟨by rfl, ?hye18⟩) (by assumption) ?reste18
                              case hye18 =>
                                intro w hSw
                                (try dsimp only at hSw)
                                go_simp
                                (try with_reducible rfl)
                              simp only [Act.put, List.setIfInBounds_toArray, List.set_cons_zero, List.set_cons_succ]
                              refine wpAnyH_take (i := 19) (oi := { dst := some 108, op := Go.Op.pick (Go.Operand.tmp 92) (Go.Operand.const (Go.Value.bool true)) (Go.Operand.tmp 107), type := 4, pos := "l2_plan.go:91", after := #[{ on := 3, ground := Go.Ground.data }, { on := 18, ground := Go.Ground.data }], guard := none }) (v := ?vve19) rfl (by kernel_rfl) (by kernel_rfl) (by kernel_rfl) (fun _ _ _ h => h) (Or.inl ⟨by rfl, ?hye19⟩) (by assumption) ?reste19
                              case hye19 =>
                                intro w hSw
                                (try dsimp only at hSw)
                                go_simp
                                (try with_reducible rfl)
                              simp only [Act.put, List.setIfInBounds_toArray, List.set_cons_zero, List.set_cons_succ]
                              refine wpAnyH_take (i := 20) (oi := { dst := some 109, op := Go.Op.move (Go.Operand.tmp 108), type := 4, pos := "l2_plan.go:91", after := #[{ on := 19, ground := Go.Ground.data }, { on := 17, ground := Go.Ground.chain }], guard := none }) (v := ?vve20) rfl (by kernel_rfl) (by kernel_rfl) (by kernel_rfl) (fun _ _ _ h => h) (Or.inl ⟨by rfl, ?hye20⟩) (by assumption) ?reste20
                              case hye20 =>
                                intro w hSw
                                (try dsimp only at hSw)
                                go_simp
                                (try with_reducible rfl)
                              simp only [Act.put, List.setIfInBounds_toArray, List.set_cons_zero, List.set_cons_succ]
                              refine wpAnyH_take (i := 21) (oi := { dst := some 110, op := Go.Op.move (Go.Operand.tmp 13), type := 3, pos := "l2_plan.go:91", after := #[{ on := 20, ground := Go.Ground.guard }], guard := some (20, false) }) (v := ?vve21) rfl (by kernel_rfl) (by kernel_rfl) (by kernel_rfl) (fun _ _ _ h => h) (Or.inl ⟨by rfl, ?hye21⟩) (by assumption) ?reste21
                              case hye21 =>
                                intro w hSw
                                (try dsimp only at hSw)
                                go_simp
                                (try with_reducible rfl)
                              simp only [Act.put, List.setIfInBounds_toArray, List.set_cons_zero, List.set_cons_succ]
                              refine wpAnyH_take (i := 22) (oi := { dst := some 111, op := Go.Op.move (Go.Operand.tmp 10), type := 3, pos := "l2_plan.go:91", after := #[{ on := 20, ground := Go.Ground.guard }], guard := some (20, false) }) (v := ?vve22) rfl (by kernel_rfl) (by kernel_rfl) (by kernel_rfl) (fun _ _ _ h => h) (Or.inl ⟨by rfl, ?hye22⟩) (by assumption) ?reste22
                              case hye22 =>
                                intro w hSw
                                (try dsimp only at hSw)
                                go_simp
                                (try with_reducible rfl)
                              simp only [Act.put, List.setIfInBounds_toArray, List.set_cons_zero, List.set_cons_succ]
                              refine wpAnyH_take (i := 23) (oi := { dst := some 112, op := Go.Op.binOp Go.BinOp.gtr 3 (Go.Operand.tmp 110) (Go.Operand.tmp 111) 3, type := 4, pos := "l2_plan.go:91", after := #[{ on := 21, ground := Go.Ground.data }, { on := 22, ground := Go.Ground.data }, { on := 20, ground := Go.Ground.guard }], guard := some (20, false) }) (v := ?vve23) rfl (by kernel_rfl) (by kernel_rfl) (by kernel_rfl) (fun _ _ _ h => h) (Or.inl ⟨by rfl, ?hye23⟩) (by assumption) ?reste23
                              case hye23 =>
                                intro w hSw
                                (try dsimp only at hSw)
                                go_simp
                                (try with_reducible rfl)
                              simp only [Act.put, List.setIfInBounds_toArray, List.set_cons_zero, List.set_cons_succ]
                              refine wpAnyH_take (i := 24) (oi := { dst := some 113, op := Go.Op.pick (Go.Operand.tmp 109) (Go.Operand.const (Go.Value.bool true)) (Go.Operand.tmp 112), type := 4, pos := "l2_plan.go:91", after := #[{ on := 20, ground := Go.Ground.data }, { on := 23, ground := Go.Ground.data }], guard := none }) (v := ?vve24) rfl (by kernel_rfl) (by kernel_rfl) (by kernel_rfl) (fun _ _ _ h => h) (Or.inl ⟨by rfl, ?hye24⟩) (by assumption) ?reste24
                              case hye24 =>
                                intro w hSw
                                (try dsimp only at hSw)
                                go_simp
                                (try with_reducible rfl)
                              simp only [Act.put, List.setIfInBounds_toArray, List.set_cons_zero, List.set_cons_succ]
                              refine wpAnyH_take (i := 25) (oi := { dst := some 114, op := Go.Op.move (Go.Operand.tmp 113), type := 4, pos := "l2_plan.go:91", after := #[{ on := 24, ground := Go.Ground.data }, { on := 20, ground := Go.Ground.chain }], guard := none }) (v := ?vve25) rfl (by kernel_rfl) (by kernel_rfl) (by kernel_rfl) (fun _ _ _ h => h) (Or.inl ⟨by rfl, ?hye25⟩) (by assumption) ?reste25
                              case hye25 =>
                                intro w hSw
                                (try dsimp only at hSw)
                                go_simp
                                (try with_reducible rfl)
                              simp only [Act.put, List.setIfInBounds_toArray, List.set_cons_zero, List.set_cons_succ]
                              refine wpAnyH_take (i := 26) (oi := { dst := some 115, op := Go.Op.move (Go.Operand.tmp 13), type := 3, pos := "l2_plan.go:91", after := #[{ on := 25, ground := Go.Ground.guard }], guard := some (25, false) }) (v := ?vve26) rfl (by kernel_rfl) (by kernel_rfl) (by kernel_rfl) (fun _ _ _ h => h) (Or.inl ⟨by rfl, ?hye26⟩) (by assumption) ?reste26
                              case hye26 =>
                                intro w hSw
                                (try dsimp only at hSw)
                                go_simp
                                (try with_reducible rfl)
                              simp only [Act.put, List.setIfInBounds_toArray, List.set_cons_zero, List.set_cons_succ]
                              refine wpAnyH_take (i := 27) (oi := { dst := some 116, op := Go.Op.move (Go.Operand.tmp 10), type := 3, pos := "l2_plan.go:91", after := #[{ on := 25, ground := Go.Ground.guard }], guard := some (25, false) }) (v := ?vve27) rfl (by kernel_rfl) (by kernel_rfl) (by kernel_rfl) (fun _ _ _ h => h) (Or.inl ⟨by rfl, ?hye27⟩) (by assumption) ?reste27
                              case hye27 =>
                                intro w hSw
                                (try dsimp only at hSw)
                                go_simp
                                (try with_reducible rfl)
                              simp only [Act.put, List.setIfInBounds_toArray, List.set_cons_zero, List.set_cons_succ]
                              refine wpAnyH_take (i := 28) (oi := { dst := some 117, op := Go.Op.binOp Go.BinOp.eql 3 (Go.Operand.tmp 115) (Go.Operand.tmp 116) 3, type := 4, pos := "l2_plan.go:91", after := #[{ on := 26, ground := Go.Ground.data }, { on := 27, ground := Go.Ground.data }, { on := 25, ground := Go.Ground.guard }], guard := some (25, false) }) (v := ?vve28) rfl (by kernel_rfl) (by kernel_rfl) (by kernel_rfl) (fun _ _ _ h => h) (Or.inl ⟨by rfl, ?hye28⟩) (by assumption) ?reste28
                              case hye28 =>
                                intro w hSw
                                (try dsimp only at hSw)
                                go_simp
                                (try with_reducible rfl)
                              simp only [Act.put, List.setIfInBounds_toArray, List.set_cons_zero, List.set_cons_succ]
                              refine wpAnyH_take (i := 29) (oi := { dst := some 118, op := Go.Op.move (Go.Operand.tmp 117), type := 4, pos := "l2_plan.go:91", after := #[{ on := 28, ground := Go.Ground.data }, { on := 25, ground := Go.Ground.chain }, { on := 25, ground := Go.Ground.guard }], guard := some (25, false) }) (v := ?vve29) rfl (by kernel_rfl) (by kernel_rfl) (by kernel_rfl) (fun _ _ _ h => h) (Or.inl ⟨by rfl, ?hye29⟩) (by assumption) ?reste29
                              case hye29 =>
                                intro w hSw
                                (try dsimp only at hSw)
                                go_simp
                                (try with_reducible rfl)
                              simp only [Act.put, List.setIfInBounds_toArray, List.set_cons_zero, List.set_cons_succ]
                              refine wpAnyH_take (i := 30) (oi := { dst := some 119, op := Go.Op.move (Go.Operand.tmp 11), type := 3, pos := "l2_plan.go:91", after := #[{ on := 29, ground := Go.Ground.guard }], guard := some (29, true) }) (v := undef) rfl (by kernel_rfl) (by kernel_rfl) (by kernel_rfl) (fun _ _ _ h => h) (Or.inr ⟨by rfl, rfl⟩) (by assumption) ?_
                              simp only [Act.put, List.setIfInBounds_toArray, List.set_cons_zero, List.set_cons_succ]
                              refine wpAnyH_take (i := 31) (oi := { dst := some 120, op := Go.Op.move (Go.Operand.tmp 8), type := 3, pos := "l2_plan.go:91", after := #[{ on := 29, ground := Go.Ground.guard }], guard := some (29, true) }) (v := undef) rfl (by kernel_rfl) (by kernel_rfl) (by kernel_rfl) (fun _ _ _ h => h) (Or.inr ⟨by rfl, rfl⟩) (by assumption) ?_
                              simp only [Act.put, List.setIfInBounds_toArray, List.set_cons_zero, List.set_cons_succ]
                              refine wpAnyH_take (i := 32) (oi := { dst := some 121, op := Go.Op.binOp Go.BinOp.gtr 3 (Go.Operand.tmp 119) (Go.Operand.tmp 120) 3, type := 4, pos := "l2_plan.go:91", after := #[{ on := 30, ground := Go.Ground.data }, { on := 31, ground := Go.Ground.data }, { on := 29, ground := Go.Ground.guard }], guard := some (29, true) }) (v := undef) rfl (by kernel_rfl) (by kernel_rfl) (by kernel_rfl) (fun _ _ _ h => h) (Or.inr ⟨by rfl, rfl⟩) (by assumption) ?_
                              simp only [Act.put, List.setIfInBounds_toArray, List.set_cons_zero, List.set_cons_succ]
                              refine wpAnyH_take (i := 33) (oi := { dst := some 122, op := Go.Op.pick (Go.Operand.tmp 118) (Go.Operand.tmp 121) (Go.Operand.const (Go.Value.bool false)), type := 4, pos := "l2_plan.go:91", after := #[{ on := 29, ground := Go.Ground.data }, { on := 32, ground := Go.Ground.data }, { on := 25, ground := Go.Ground.guard }], guard := some (25, false) }) (v := ?vve33) rfl (by kernel_rfl) (by kernel_rfl) (by kernel_rfl) (fun _ _ _ h => h) (Or.inl ⟨by rfl, ?hye33⟩) (by assumption) ?reste33
                              case hye33 =>
                                intro w hSw
                                (try dsimp only at hSw)
                                go_simp
                                (try with_reducible rfl)
                              simp only [Act.put, List.setIfInBounds_toArray, List.set_cons_zero, List.set_cons_succ]
                              refine wpAnyH_take (i := 34) (oi := { dst := some 123, op := Go.Op.pick (Go.Operand.tmp 114) (Go.Operand.const (Go.Value.bool true)) (Go.Operand.tmp 122), type := 4, pos := "l2_plan.go:91", after := #[{ on := 25, ground := Go.Ground.data }, { on := 33, ground := Go.Ground.data }], guard := none }) (v := ?vve34) rfl (by kernel_rfl) (by kernel_rfl) (by kernel_rfl) (fun _ _ _ h => h) (Or.inl ⟨by rfl, ?hye34⟩) (by assumption) ?reste34
                              case hye34 =>
                                intro w hSw
                                (try dsimp only at hSw)
                                go_simp
                                (try with_reducible rfl)
                              simp only [Act.put, List.setIfInBounds_toArray, List.set_cons_zero, List.set_cons_succ]
                              refine wpAnyH_done (by kernel_rfl) ?_ _
                              have hJ := hD7
                              have hszB := hB.size
                              replace hX := hX.later hJ
                              replace hB := Below.join hB (Nat.le_refl _) hJ
                              replace t4' := cellLater hJ t4'
                              replace g1 := cellLater hJ g1
                              replace hinj := hinj.below hJ hszB
                              have y1 := hX.l1
                              have y2 := hX.l2
                              clear hJ hSS hS0 hD0 hD6 hD7 hszB t0 t1 t2 t3 t4 t0' t1' t2' t3' x2
                              go_wp2
                              by_cases hbad : (P i).s k < (P j).s m + ((f j).leg m).run + gap
                              · have hon : onB gap f P i k j m = true := decide_eq_true ⟨hij, htk.out, by omega, hcj.out, hbad⟩
                                have hve := hv.out.symm.trans (clashOf_three hF.out hS h2 hlt hlt2 (withOf_some hlt3 hlt4 hon hall4 hall3) hall2 hall)
                                go_region_held3 (fun w' => w'.cell? ⟨w.heap.size, 2, none⟩ = some (.slice (some ⟨b, off, none⟩) np cap') ∧ w'.cell? ⟨b, off + j * 5 + 4, none⟩ = some (.slice (some ⟨bl, ol, none⟩) (f j).nl lc') ∧ w'.cell? ⟨bl, ol + m * 3 + 1, none⟩ = some (.int .i64 ((f j).leg m).run) ∧ w'.cell? ⟨w.heap.size, 1, none⟩ = some (.int .i64 gap)) (go_keep) (fail)
                                have r0 := hX.r0
                                have r1 := hX.r1
                                have r2 := hX.r2
                                have r3 := hX.r3
                                have z0 := hX.z0
                                have z1 := hX.z1
                                have z2 := hX.z2
                                have z3 := hX.z3
                                go_wp2
                                refine bodyPost_ret (v := .agg #[.int .i64 3, .int .i64 i, .int .i64 k, .int .i64 j]) (by simp [results, Tryz.results8, go_sem, r0, r1, r2, r3]) rfl ⟨by rw [hve], ?_⟩
                                exact below_set4 hB.drew (by omega) _ _ _ _
                              · have hon : onB gap f P i k j m = false := decide_eq_false (fun h => hbad h.2.2.2.2)
                                go_region_held3 (fun w' => w'.cell? ⟨w.heap.size, 2, none⟩ = some (.slice (some ⟨b, off, none⟩) np cap') ∧ w'.cell? ⟨b, off + j * 5 + 4, none⟩ = some (.slice (some ⟨bl, ol, none⟩) (f j).nl lc') ∧ w'.cell? ⟨bl, ol + m * 3 + 1, none⟩ = some (.int .i64 ((f j).leg m).run) ∧ w'.cell? ⟨w.heap.size, 1, none⟩ = some (.int .i64 gap)) (go_keep) (fail)
                                go_wp2
                                go_roundw
                                case rel => exact ⟨m + 1, by omega, by go_num, fun q hq => (by by_cases e : q = m; (· subst e; exact hon); (· exact hall4 q (by omega))), hX.later (Below.refl _ _).drew, hB.drew, hinj⟩
                                case measure => simp [intOf]; omega
                        · have hne : (trackOf (f i) k != trackOf (f j) m) = true := by simpa using htk0
                          have hon : onB gap f P i k j m = false := decide_eq_false (fun h => htk0 h.2.1)
                          go_wp2
                          refine wp_region_held_drew (S := (fun w' => w'.cell? ⟨w.heap.size, 2, none⟩ = some (.slice (some ⟨b, off, none⟩) np cap') ∧ w'.cell? ⟨b, off + i * 5, none⟩ = some (.int .i64 (f i).frm) ∧ w'.cell? ⟨b, off + i * 5 + 1, none⟩ = some (.int .i64 (f i).ready) ∧ w'.cell? ⟨b, off + i * 5 + 2, none⟩ = some (.int .i64 (f i).due) ∧ w'.cell? ⟨b, off + i * 5 + 3, none⟩ = some (.int .i64 (f i).weight) ∧ w'.cell? ⟨b, off + i * 5 + 4, none⟩ = some (.slice la (f i).nl lc) ∧ w'.cell? ⟨b, off + j * 5, none⟩ = some (.int .i64 (f j).frm) ∧ w'.cell? ⟨b, off + j * 5 + 1, none⟩ = some (.int .i64 (f j).ready) ∧ w'.cell? ⟨b, off + j * 5 + 2, none⟩ = some (.int .i64 (f j).due) ∧ w'.cell? ⟨b, off + j * 5 + 3, none⟩ = some (.int .i64 (f j).weight) ∧ w'.cell? ⟨b, off + j * 5 + 4, none⟩ = some (.slice (some ⟨bl, ol, none⟩) (f j).nl lc'))) (by kernel_rfl) hS0 (fun hHeld => ?_)
                          refine wpAnyH_take (i := 0) (oi := { dst := some 89, op := Go.Op.move (Go.Operand.tmp 8), type := 3, pos := "l2_plan.go:91", after := #[], guard := none }) (v := ?vvf0) rfl (by kernel_rfl) (by kernel_rfl) (by kernel_rfl) (fun _ _ _ h => h) (Or.inl ⟨by rfl, ?hyf0⟩) (by assumption) ?restf0
                          case hyf0 =>
                            intro w hSw
                            (try dsimp only at hSw)
                            go_simp
                            (try with_reducible rfl)
                          simp only [Act.put, List.setIfInBounds_toArray, List.set_cons_zero, List.set_cons_succ]
                          refine wpAnyH_take (i := 1) (oi := { dst := some 90, op := Go.Op.move (Go.Operand.tmp 11), type := 3, pos := "l2_plan.go:91", after := #[], guard := none }) (v := ?vvf1) rfl (by kernel_rfl) (by kernel_rfl) (by kernel_rfl) (fun _ _ _ h => h) (Or.inl ⟨by rfl, ?hyf1⟩) (by assumption) ?restf1
                          case hyf1 =>
                            intro w hSw
                            (try dsimp only at hSw)
                            go_simp
                            (try with_reducible rfl)
                          simp only [Act.put, List.setIfInBounds_toArray, List.set_cons_zero, List.set_cons_succ]
                          refine wpAnyH_take (i := 2) (oi := { dst := some 91, op := Go.Op.binOp Go.BinOp.eql 3 (Go.Operand.tmp 89) (Go.Operand.tmp 90) 3, type := 4, pos := "l2_plan.go:91", after := #[{ on := 0, ground := Go.Ground.data }, { on := 1, ground := Go.Ground.data }], guard := none }) (v := ?vvf2) rfl (by kernel_rfl) (by kernel_rfl) (by kernel_rfl) (fun _ _ _ h => h) (Or.inl ⟨by rfl, ?hyf2⟩) (by assumption) ?restf2
                          case hyf2 =>
                            intro w hSw
                            (try dsimp only at hSw)
                            go_simp
                            (try with_reducible rfl)
                          simp only [Act.put, List.setIfInBounds_toArray, List.set_cons_zero, List.set_cons_succ]
                          refine wpAnyH_take (i := 3) (oi := { dst := some 92, op := Go.Op.move (Go.Operand.tmp 91), type := 4, pos := "l2_plan.go:91", after := #[{ on := 2, ground := Go.Ground.data }], guard := none }) (v := ?vvf3) rfl (by kernel_rfl) (by kernel_rfl) (by kernel_rfl) (fun _ _ _ h => h) (Or.inl ⟨by rfl, ?hyf3⟩) (by assumption) ?restf3
                          case hyf3 =>
                            intro w hSw
                            (try dsimp only at hSw)
                            go_simp
                            (try with_reducible rfl)
                          simp only [Act.put, List.setIfInBounds_toArray, List.set_cons_zero, List.set_cons_succ]
                          refine wpAnyH_take (i := 4) (oi := { dst := some 93, op := Go.Op.fieldAddr 26 (Go.Operand.tmp 2) 2, type := 0, pos := "l2_plan.go:91", after := #[{ on := 3, ground := Go.Ground.guard }], guard := some (3, false) }) (v := ?vvf4) rfl (by kernel_rfl) (by kernel_rfl) (by kernel_rfl) (fun _ _ _ h => h) (Or.inl ⟨by rfl, ?hyf4⟩) (by assumption) ?restf4
                          case hyf4 =>
                            intro w hSw
                            (try dsimp only at hSw)
                            go_simp
                            (try with_reducible rfl)
                          simp only [Act.put, List.setIfInBounds_toArray, List.set_cons_zero, List.set_cons_succ]
                          refine wpAnyH_take (i := 5) (oi := { dst := some 94, op := Go.Op.load 24 (Go.Operand.tmp 93), type := 24, pos := "l2_plan.go:91", after := #[{ on := 4, ground := Go.Ground.data }, { on := 3, ground := Go.Ground.guard }], guard := some (3, false) }) (v := ?vvf5) rfl (by kernel_rfl) (by kernel_rfl) (by kernel_rfl) (fun _ _ _ h => h) (Or.inl ⟨by rfl, ?hyf5⟩) (by assumption) ?restf5
                          case hyf5 =>
                            intro w hSw
                            (try dsimp only at hSw)
                            go_simp
                            (try with_reducible rfl)
                          simp only [Act.put, List.setIfInBounds_toArray, List.set_cons_zero, List.set_cons_succ]
                          refine wpAnyH_take (i := 6) (oi := { dst := some 95, op := Go.Op.move (Go.Operand.tmp 8), type := 3, pos := "l2_plan.go:91", after := #[{ on := 3, ground := Go.Ground.guard }], guard := some (3, false) }) (v := ?vvf6) rfl (by kernel_rfl) (by kernel_rfl) (by kernel_rfl) (fun _ _ _ h => h) (Or.inl ⟨by rfl, ?hyf6⟩) (by assumption) ?restf6
                          case hyf6 =>
                            intro w hSw
                            (try dsimp only at hSw)
                            go_simp
                            (try with_reducible rfl)
                          simp only [Act.put, List.setIfInBounds_toArray, List.set_cons_zero, List.set_cons_succ]
                          refine wpAnyH_take (i := 7) (oi := { dst := some 96, op := Go.Op.indexAddr 24 (Go.Operand.tmp 94) (Go.Operand.tmp 95), type := 0, pos := "l2_plan.go:91", after := #[{ on := 5, ground := Go.Ground.data }, { on := 6, ground := Go.Ground.data }, { on := 3, ground := Go.Ground.guard }], guard := some (3, false) }) (v := ?vvf7) rfl (by kernel_rfl) (by kernel_rfl) (by kernel_rfl) (fun _ _ _ h => h) (Or.inl ⟨by rfl, ?hyf7⟩) (by assumption) ?restf7
                          case hyf7 =>
                            intro w hSw
                            (try dsimp only at hSw)
                            go_simp
                            (try with_reducible rfl)
                          simp only [Act.put, List.setIfInBounds_toArray, List.set_cons_zero, List.set_cons_succ]
                          refine wpAnyH_take (i := 8) (oi := { dst := some 97, op := Go.Op.load 72 (Go.Operand.tmp 96), type := 72, pos := "l2_plan.go:91", after := #[{ on := 7, ground := Go.Ground.data }, { on := 3, ground := Go.Ground.guard }], guard := some (3, false) }) (v := ?vvf8) rfl (by kernel_rfl) (by kernel_rfl) (by kernel_rfl) (fun _ _ _ h => h) (Or.inl ⟨by rfl, ?hyf8⟩) (by assumption) ?restf8
                          case hyf8 =>
                            intro w hSw
                            (try dsimp only at hSw)
                            go_simp
                            (try with_reducible rfl)
                          simp only [Act.put, List.setIfInBounds_toArray, List.set_cons_zero, List.set_cons_succ]
                          refine wpAnyH_take (i := 9) (oi := { dst := some 98, op := Go.Op.move (Go.Operand.tmp 9), type := 3, pos := "l2_plan.go:91", after := #[{ on := 3, ground := Go.Ground.guard }], guard := some (3, false) }) (v := ?vvf9) rfl (by kernel_rfl) (by kernel_rfl) (by kernel_rfl) (fun _ _ _ h => h) (Or.inl ⟨by rfl, ?hyf9⟩) (by assumption) ?restf9
                          case hyf9 =>
                            intro w hSw
                            (try dsimp only at hSw)
                            go_simp
                            (try with_reducible rfl)
                          simp only [Act.put, List.setIfInBounds_toArray, List.set_cons_zero, List.set_cons_succ]
                          refine wpAnyH_take (i := 11) (oi := { dst := some 100, op := Go.Op.fieldAddr 26 (Go.Operand.tmp 2) 2, type := 0, pos := "l2_plan.go:91", after := #[{ on := 3, ground := Go.Ground.guard }], guard := some (3, false) }) (v := ?vvf11) rfl (by kernel_rfl) (by kernel_rfl) (by kernel_rfl) (fun _ _ _ h => h) (Or.inl ⟨by rfl, ?hyf11⟩) (by assumption) ?restf11
                          case hyf11 =>
                            intro w hSw
                            (try dsimp only at hSw)
                            go_simp
                            (try with_reducible rfl)
                          simp only [Act.put, List.setIfInBounds_toArray, List.set_cons_zero, List.set_cons_succ]
                          refine wpAnyH_take (i := 12) (oi := { dst := some 101, op := Go.Op.load 24 (Go.Operand.tmp 100), type := 24, pos := "l2_plan.go:91", after := #[{ on := 11, ground := Go.Ground.data }, { on := 3, ground := Go.Ground.guard }], guard := some (3, false) }) (v := ?vvf12) rfl (by kernel_rfl) (by kernel_rfl) (by kernel_rfl) (fun _ _ _ h => h) (Or.inl ⟨by rfl, ?hyf12⟩) (by assumption) ?restf12
                          case hyf12 =>
                            intro w hSw
                            (try dsimp only at hSw)
                            go_simp
                            (try with_reducible rfl)
                          simp only [Act.put, List.setIfInBounds_toArray, List.set_cons_zero, List.set_cons_succ]
                          refine wpAnyH_take (i := 13) (oi := { dst := some 102, op := Go.Op.move (Go.Operand.tmp 11), type := 3, pos := "l2_plan.go:91", after := #[{ on := 3, ground := Go.Ground.guard }], guard := some (3, false) }) (v := ?vvf13) rfl (by kernel_rfl) (by kernel_rfl) (by kernel_rfl) (fun _ _ _ h => h) (Or.inl ⟨by rfl, ?hyf13⟩) (by assumption) ?restf13
                          case hyf13 =>
                            intro w hSw
                            (try dsimp only at hSw)
                            go_simp
                            (try with_reducible rfl)
                          simp only [Act.put, List.setIfInBounds_toArray, List.set_cons_zero, List.set_cons_succ]
                          refine wpAnyH_take (i := 14) (oi := { dst := some 103, op := Go.Op.indexAddr 24 (Go.Operand.tmp 101) (Go.Operand.tmp 102), type := 0, pos := "l2_plan.go:91", after := #[{ on := 12, ground := Go.Ground.data }, { on := 13, ground := Go.Ground.data }, { on := 3, ground := Go.Ground.guard }], guard := some (3, false) }) (v := ?vvf14) rfl (by kernel_rfl) (by kernel_rfl) (by kernel_rfl) (fun _ _ _ h => h) (Or.inl ⟨by rfl, ?hyf14⟩) (by assumption) ?restf14
                          case hyf14 =>
                            intro w hSw
                            (try dsimp only at hSw)
                            go_simp
                            (try with_reducible rfl)
                          simp only [Act.put, List.setIfInBounds_toArray, List.set_cons_zero, List.set_cons_succ]
                          refine wpAnyH_take (i := 15) (oi := { dst := some 104, op := Go.Op.load 72 (Go.Operand.tmp 103), type := 72, pos := "l2_plan.go:91", after := #[{ on := 14, ground := Go.Ground.data }, { on := 3, ground := Go.Ground.guard }], guard := some (3, false) }) (v := ?vvf15) rfl (by kernel_rfl) (by kernel_rfl) (by kernel_rfl) (fun _ _ _ h => h) (Or.inl ⟨by rfl, ?hyf15⟩) (by assumption) ?restf15
                          case hyf15 =>
                            intro w hSw
                            (try dsimp only at hSw)
                            go_simp
                            (try with_reducible rfl)
                          simp only [Act.put, List.setIfInBounds_toArray, List.set_cons_zero, List.set_cons_succ]
                          refine wpAnyH_take (i := 16) (oi := { dst := some 105, op := Go.Op.move (Go.Operand.tmp 12), type := 3, pos := "l2_plan.go:91", after := #[{ on := 3, ground := Go.Ground.guard }], guard := some (3, false) }) (v := ?vvf16) rfl (by kernel_rfl) (by kernel_rfl) (by kernel_rfl) (fun _ _ _ h => h) (Or.inl ⟨by rfl, ?hyf16⟩) (by assumption) ?restf16
                          case hyf16 =>
                            intro w hSw
                            (try dsimp only at hSw)
                            go_simp
                            (try with_reducible rfl)
                          simp only [Act.put, List.setIfInBounds_toArray, List.set_cons_zero, List.set_cons_succ]
                          refine wpAnyH_ready (rs := [10]) (by kernel_rfl) (by simp) ?_
                          refine AllReadyH.cons (o := { dst := some 99, op := Go.Op.call { callee := Go.Callee.value (Go.Operand.func 32), args := #[Go.Operand.tmp 97, Go.Operand.tmp 98], argTypes := #[72, 3] }, type := 3, pos := "l2_plan.go:91", after := #[{ on := 8, ground := Go.Ground.data }, { on := 9, ground := Go.Ground.data }, { on := 3, ground := Go.Ground.chain }, { on := 3, ground := Go.Ground.guard }], guard := some (3, false) }) rfl (fun K hK => ?_) AllReadyH.nil
                          go_simp
                          refine (l2track_any (f i) k _ _ _ hlt2 hni hlg).mono ?_
                          rintro _ W6 ⟨rfl, hB6⟩
                          replace hlg' := hlg'.grow hB6
                          have hD6 := Below.join hD0 (Nat.le_refl _) hB6
                          refine hK.out _ _ (hSS _ hD6) (fun hHeld => ?_)
                          clear hK K
                          (try simp only [Act.put, List.setIfInBounds_toArray, List.set_cons_zero, List.set_cons_succ])
                          refine wpAnyH_ready (rs := [17]) (by kernel_rfl) (by simp) ?_
                          refine AllReadyH.cons (o := { dst := some 106, op := Go.Op.call { callee := Go.Callee.value (Go.Operand.func 32), args := #[Go.Operand.tmp 104, Go.Operand.tmp 105], argTypes := #[72, 3] }, type := 3, pos := "l2_plan.go:91", after := #[{ on := 15, ground := Go.Ground.data }, { on := 16, ground := Go.Ground.data }, { on := 10, ground := Go.Ground.chain }, { on := 3, ground := Go.Ground.guard }], guard := some (3, false) }) rfl (fun K hK => ?_) AllReadyH.nil
                          go_simp
                          refine (l2track_any (f j) m _ _ _ hlt4 hnj hlg').mono ?_
                          rintro _ W7 ⟨rfl, hB7⟩
                          have hD7 := Below.join hD6 (Nat.le_refl _) hB7
                          refine hK.out _ _ (hSS _ hD7) (fun hHeld => ?_)
                          clear hK K
                          (try simp only [Act.put, List.setIfInBounds_toArray, List.set_cons_zero, List.set_cons_succ])
                          refine wpAnyH_take (i := 18) (oi := { dst := some 107, op := Go.Op.binOp Go.BinOp.neq 3 (Go.Operand.tmp 99) (Go.Operand.tmp 106) 3, type := 4, pos := "l2_plan.go:91", after := #[{ on := 10, ground := Go.Ground.data }, { on := 17, ground := Go.Ground.data }, { on := 3, ground := Go.Ground.guard }], guard := some (3, false) }) (v := ?vvf18) rfl (by kernel_rfl) (by kernel_rfl) (by kernel_rfl) (fun _ _ _ h => h) (Or.inl ⟨by rfl, ?hyf18⟩) (by assumption) ?restf18
                          case hyf18 =>
                            intro w hSw
                            (try dsimp only at hSw)
                            go_simp
                            (try with_reducible rfl)
                          simp only [Act.put, List.setIfInBounds_toArray, List.set_cons_zero, List.set_cons_succ]
                          refine wpAnyH_take (i := 19) (oi := { dst := some 108, op := Go.Op.pick (Go.Operand.tmp 92) (Go.Operand.const (Go.Value.bool true)) (Go.Operand.tmp 107), type := 4, pos := "l2_plan.go:91", after := #[{ on := 3, ground := Go.Ground.data }, { on := 18, ground := Go.Ground.data }], guard := none }) (v := ?vvf19) rfl (by kernel_rfl) (by kernel_rfl) (by kernel_rfl) (fun _ _ _ h => h) (Or.inl ⟨by rfl, ?hyf19⟩) (by assumption) ?restf19
                          case hyf19 =>
                            intro w hSw
                            (try dsimp only at hSw)
                            go_simp
                            (try with_reducible rfl)
                          simp only [Act.put, List.setIfInBounds_toArray, List.set_cons_zero, List.set_cons_succ]
                          refine wpAnyH_take (i := 20) (oi := { dst := some 109, op := Go.Op.move (Go.Operand.tmp 108), type := 4, pos := "l2_plan.go:91", after := #[{ on := 19, ground := Go.Ground.data }, { on := 17, ground := Go.Ground.chain }], guard := none }) (v := ?vvf20) rfl (by kernel_rfl) (by kernel_rfl) (by kernel_rfl) (fun _ _ _ h => h) (Or.inl ⟨by rfl, ?hyf20⟩) (by assumption) ?restf20
                          case hyf20 =>
                            intro w hSw
                            (try dsimp only at hSw)
                            go_simp
                            (try with_reducible rfl)
                          simp only [Act.put, List.setIfInBounds_toArray, List.set_cons_zero, List.set_cons_succ]
                          refine wpAnyH_take (i := 21) (oi := { dst := some 110, op := Go.Op.move (Go.Operand.tmp 13), type := 3, pos := "l2_plan.go:91", after := #[{ on := 20, ground := Go.Ground.guard }], guard := some (20, false) }) (v := undef) rfl (by kernel_rfl) (by kernel_rfl) (by kernel_rfl) (fun _ _ _ h => h) (Or.inr ⟨by rfl, rfl⟩) (by assumption) ?_
                          simp only [Act.put, List.setIfInBounds_toArray, List.set_cons_zero, List.set_cons_succ]
                          refine wpAnyH_take (i := 22) (oi := { dst := some 111, op := Go.Op.move (Go.Operand.tmp 10), type := 3, pos := "l2_plan.go:91", after := #[{ on := 20, ground := Go.Ground.guard }], guard := some (20, false) }) (v := undef) rfl (by kernel_rfl) (by kernel_rfl) (by kernel_rfl) (fun _ _ _ h => h) (Or.inr ⟨by rfl, rfl⟩) (by assumption) ?_
                          simp only [Act.put, List.setIfInBounds_toArray, List.set_cons_zero, List.set_cons_succ]
                          refine wpAnyH_take (i := 23) (oi := { dst := some 112, op := Go.Op.binOp Go.BinOp.gtr 3 (Go.Operand.tmp 110) (Go.Operand.tmp 111) 3, type := 4, pos := "l2_plan.go:91", after := #[{ on := 21, ground := Go.Ground.data }, { on := 22, ground := Go.Ground.data }, { on := 20, ground := Go.Ground.guard }], guard := some (20, false) }) (v := undef) rfl (by kernel_rfl) (by kernel_rfl) (by kernel_rfl) (fun _ _ _ h => h) (Or.inr ⟨by rfl, rfl⟩) (by assumption) ?_
                          simp only [Act.put, List.setIfInBounds_toArray, List.set_cons_zero, List.set_cons_succ]
                          refine wpAnyH_take (i := 24) (oi := { dst := some 113, op := Go.Op.pick (Go.Operand.tmp 109) (Go.Operand.const (Go.Value.bool true)) (Go.Operand.tmp 112), type := 4, pos := "l2_plan.go:91", after := #[{ on := 20, ground := Go.Ground.data }, { on := 23, ground := Go.Ground.data }], guard := none }) (v := ?vvf24) rfl (by kernel_rfl) (by kernel_rfl) (by kernel_rfl) (fun _ _ _ h => h) (Or.inl ⟨by rfl, ?hyf24⟩) (by assumption) ?restf24
                          case hyf24 =>
                            intro w hSw
                            (try dsimp only at hSw)
                            go_simp
                            (try with_reducible rfl)
                          simp only [Act.put, List.setIfInBounds_toArray, List.set_cons_zero, List.set_cons_succ]
                          refine wpAnyH_take (i := 25) (oi := { dst := some 114, op := Go.Op.move (Go.Operand.tmp 113), type := 4, pos := "l2_plan.go:91", after := #[{ on := 24, ground := Go.Ground.data }, { on := 20, ground := Go.Ground.chain }], guard := none }) (v := ?vvf25) rfl (by kernel_rfl) (by kernel_rfl) (by kernel_rfl) (fun _ _ _ h => h) (Or.inl ⟨by rfl, ?hyf25⟩) (by assumption) ?restf25
                          case hyf25 =>
                            intro w hSw
                            (try dsimp only at hSw)
                            go_simp
                            (try with_reducible rfl)
                          simp only [Act.put, List.setIfInBounds_toArray, List.set_cons_zero, List.set_cons_succ]
                          refine wpAnyH_take (i := 26) (oi := { dst := some 115, op := Go.Op.move (Go.Operand.tmp 13), type := 3, pos := "l2_plan.go:91", after := #[{ on := 25, ground := Go.Ground.guard }], guard := some (25, false) }) (v := undef) rfl (by kernel_rfl) (by kernel_rfl) (by kernel_rfl) (fun _ _ _ h => h) (Or.inr ⟨by rfl, rfl⟩) (by assumption) ?_
                          simp only [Act.put, List.setIfInBounds_toArray, List.set_cons_zero, List.set_cons_succ]
                          refine wpAnyH_take (i := 27) (oi := { dst := some 116, op := Go.Op.move (Go.Operand.tmp 10), type := 3, pos := "l2_plan.go:91", after := #[{ on := 25, ground := Go.Ground.guard }], guard := some (25, false) }) (v := undef) rfl (by kernel_rfl) (by kernel_rfl) (by kernel_rfl) (fun _ _ _ h => h) (Or.inr ⟨by rfl, rfl⟩) (by assumption) ?_
                          simp only [Act.put, List.setIfInBounds_toArray, List.set_cons_zero, List.set_cons_succ]
                          refine wpAnyH_take (i := 28) (oi := { dst := some 117, op := Go.Op.binOp Go.BinOp.eql 3 (Go.Operand.tmp 115) (Go.Operand.tmp 116) 3, type := 4, pos := "l2_plan.go:91", after := #[{ on := 26, ground := Go.Ground.data }, { on := 27, ground := Go.Ground.data }, { on := 25, ground := Go.Ground.guard }], guard := some (25, false) }) (v := undef) rfl (by kernel_rfl) (by kernel_rfl) (by kernel_rfl) (fun _ _ _ h => h) (Or.inr ⟨by rfl, rfl⟩) (by assumption) ?_
                          simp only [Act.put, List.setIfInBounds_toArray, List.set_cons_zero, List.set_cons_succ]
                          refine wpAnyH_take (i := 29) (oi := { dst := some 118, op := Go.Op.move (Go.Operand.tmp 117), type := 4, pos := "l2_plan.go:91", after := #[{ on := 28, ground := Go.Ground.data }, { on := 25, ground := Go.Ground.chain }, { on := 25, ground := Go.Ground.guard }], guard := some (25, false) }) (v := undef) rfl (by kernel_rfl) (by kernel_rfl) (by kernel_rfl) (fun _ _ _ h => h) (Or.inr ⟨by rfl, rfl⟩) (by assumption) ?_
                          simp only [Act.put, List.setIfInBounds_toArray, List.set_cons_zero, List.set_cons_succ]
                          refine wpAnyH_take (i := 30) (oi := { dst := some 119, op := Go.Op.move (Go.Operand.tmp 11), type := 3, pos := "l2_plan.go:91", after := #[{ on := 29, ground := Go.Ground.guard }], guard := some (29, true) }) (v := undef) rfl (by kernel_rfl) (by kernel_rfl) (by kernel_rfl) (fun _ _ _ h => h) (Or.inr ⟨by rfl, rfl⟩) (by assumption) ?_
                          simp only [Act.put, List.setIfInBounds_toArray, List.set_cons_zero, List.set_cons_succ]
                          refine wpAnyH_take (i := 31) (oi := { dst := some 120, op := Go.Op.move (Go.Operand.tmp 8), type := 3, pos := "l2_plan.go:91", after := #[{ on := 29, ground := Go.Ground.guard }], guard := some (29, true) }) (v := undef) rfl (by kernel_rfl) (by kernel_rfl) (by kernel_rfl) (fun _ _ _ h => h) (Or.inr ⟨by rfl, rfl⟩) (by assumption) ?_
                          simp only [Act.put, List.setIfInBounds_toArray, List.set_cons_zero, List.set_cons_succ]
                          refine wpAnyH_take (i := 32) (oi := { dst := some 121, op := Go.Op.binOp Go.BinOp.gtr 3 (Go.Operand.tmp 119) (Go.Operand.tmp 120) 3, type := 4, pos := "l2_plan.go:91", after := #[{ on := 30, ground := Go.Ground.data }, { on := 31, ground := Go.Ground.data }, { on := 29, ground := Go.Ground.guard }], guard := some (29, true) }) (v := undef) rfl (by kernel_rfl) (by kernel_rfl) (by kernel_rfl) (fun _ _ _ h => h) (Or.inr ⟨by rfl, rfl⟩) (by assumption) ?_
                          simp only [Act.put, List.setIfInBounds_toArray, List.set_cons_zero, List.set_cons_succ]
                          refine wpAnyH_take (i := 33) (oi := { dst := some 122, op := Go.Op.pick (Go.Operand.tmp 118) (Go.Operand.tmp 121) (Go.Operand.const (Go.Value.bool false)), type := 4, pos := "l2_plan.go:91", after := #[{ on := 29, ground := Go.Ground.data }, { on := 32, ground := Go.Ground.data }, { on := 25, ground := Go.Ground.guard }], guard := some (25, false) }) (v := undef) rfl (by kernel_rfl) (by kernel_rfl) (by kernel_rfl) (fun _ _ _ h => h) (Or.inr ⟨by rfl, rfl⟩) (by assumption) ?_
                          simp only [Act.put, List.setIfInBounds_toArray, List.set_cons_zero, List.set_cons_succ]
                          refine wpAnyH_take (i := 34) (oi := { dst := some 123, op := Go.Op.pick (Go.Operand.tmp 114) (Go.Operand.const (Go.Value.bool true)) (Go.Operand.tmp 122), type := 4, pos := "l2_plan.go:91", after := #[{ on := 25, ground := Go.Ground.data }, { on := 33, ground := Go.Ground.data }], guard := none }) (v := ?vvf34) rfl (by kernel_rfl) (by kernel_rfl) (by kernel_rfl) (fun _ _ _ h => h) (Or.inl ⟨by rfl, ?hyf34⟩) (by assumption) ?restf34
                          case hyf34 =>
                            intro w hSw
                            (try dsimp only at hSw)
                            go_simp
                            (try with_reducible rfl)
                          simp only [Act.put, List.setIfInBounds_toArray, List.set_cons_zero, List.set_cons_succ]
                          refine wpAnyH_done (by kernel_rfl) ?_ _
                          have hJ := hD7
                          go_wp2
                          go_roundw
                          case rel => exact ⟨m + 1, by omega, by go_num, fun q hq => (by by_cases e : q = m; (· subst e; exact hon); (· exact hall4 q (by omega))), hX.later hJ, Below.join hB (Nat.le_refl _) hJ, hinj.below hJ hB.size⟩
                          case measure => simp [intOf]; omega
                    · have hke : Hid (m = (f j).nl) := (by omega : m = (f j).nl)
                      have hmn : ((f j).nl : Int) ≤ (m : Int) := by omega
                      clear hlt4 hm
                      go_wp2
                      go_roundw
                      case rel => exact ⟨j + 1, by omega, by go_num, fun q hq => (by by_cases e : q = j; (· subst e; intro m' hm'; exact hall4 m' (by rw [hke.out]; exact hm')); (· exact hall3 q (by omega))), hX, hB⟩
                      case measure => simp [intOf]; omega
                · have hje : Hid (j = np) := (by omega : j = np)
                  have hjn : (np : Int) ≤ (j : Int) := by omega
                  have hwn := withOf_none (gap := gap) (ntr := np) (f := f) (P := P) (i := i) (k := k) (fun q hq => hall3 q (by rw [hje.out]; exact hq))
                  clear hlt3 hj hje
                  go_wp2
                  go_roundw
                  case rel => exact ⟨k + 1, by omega, by go_num, fun m hm => (by by_cases e : m = k; (· subst e; exact hwn); (· exact hall2 m (by omega))), hX, hB, hinw.below hB (Nat.le_refl _)⟩
                  case measure => simp [intOf]; omega
            · have hke : Hid (k = (f i).nl) := (by omega : k = (f i).nl)
              have hkn : ((f i).nl : Int) ≤ (k : Int) := by omega
              clear hlt2 hk
              go_wp2
              go_roundw
              case rel => exact ⟨i + 1, by omega, by go_num, fun j hj => (by by_cases e : j = i; (· subst e; intro m hm; exact hall2 m (by rw [hke.out]; exact hm)); (· exact hall j (by omega))), hX, hB⟩
              case measure => simp [intOf]; omega
        · have hie : Hid (i = np) := (by omega : i = np)
          have hin' : (np : Int) ≤ (i : Int) := by omega
          have h3 : ∀ j, j < np → ∀ m, m < (f j).nl → withOf gap np f P j m = none := fun j hj => hall j (by rw [hie.out]; exact hj)
          clear hall hie
          go_wp2
          clear y0 hlt hi
          go_loopw [152] (fun ii wr => ∃ (i : Nat), i ≤ np ∧ ii = .int .i64 i ∧ (∀ j, j < i → ∀ m, m < (f j).nl → fullB g np f P j m = false) ∧ Boxes w wr a len cap gap a' np cap' c np nc ∧ Below w.heap.size w wr) (fun ii _ => np - (intOf ii).toNat)
          case atStart => exact ⟨0, Nat.zero_le _, rfl, fun _ h => by omega, hX, hB⟩
          case round =>
            clear hX hB hin'
            obtain ⟨i, hi, rfl, hall, hX, hB⟩ := hrel
            have y0 := hX.p0
            by_cases hlt : i < np
            · obtain ⟨bp, op, lp, lpc, rfl, _, hbp, p0, hin, _⟩ := (hP.below hB (Nat.le_refl _)) i hlt
              rw [hQ.row i hlt] at p0 hin
              have hni := (hR.train i hlt).nl
              have hin' : (i : Int) < (np : Int) := by omega
              go_wp2
              clear y0
              go_loopw [161] (fun kk wr2 => ∃ (k : Nat), k ≤ (f i).nl ∧ kk = .int .i64 k ∧ (∀ m, m < k → fullB g np f P i m = false) ∧ Boxes w wr2 a len cap gap a' np cap' (some ⟨bp, op, none⟩) np nc ∧ Below w.heap.size w wr2) (fun kk _ => (f i).nl - (intOf kk).toNat)
              case atStart => exact ⟨0, Nat.zero_le _, rfl, fun _ h => by omega, hX, hB⟩
              case round =>
                clear hX hB hin p0
                obtain ⟨k, hk, rfl, hall2, hX, hB⟩ := hrel
                have x0 := hX.l0
                have x1 := hX.l1
                have x2 := hX.l2
                have y0 := hX.p0
                by_cases hlt2 : k < (f i).nl
                · have hkn : (k : Int) < ((f i).nl : Int) := by omega
                  cases hbad : fullB g np f P i k
                  · go_wp2_with (go_at_call 33; refine (l2full_any _ _ _ g _ _ _ _ f _ _ _ P i k _ hR hQ hlt hlt2 (hI.grow hB) (hT.grow hB) (hP.grow hB)).mono ?_; rw [hbad]; rintro _ w4 ⟨rfl, hB4⟩)
                    go_roundw
                    case rel => first | exact ⟨k + 1, by omega, by go_num, fun m hm => (by by_cases e : m = k; (· subst e; exact hbad); (· exact hall2 m (by omega))), hX.later hB4, Below.join hB (Nat.le_refl _) hB4⟩ | ((repeat apply Exists.intro); exact ⟨⟨k + 1, by omega, by go_num, fun m hm => (by by_cases e : m = k; (· subst e; exact hbad); (· exact hall2 m (by omega))), hX.later hB4, Below.join hB (Nat.le_refl _) hB4⟩, rfl⟩)
                    case measure => simp [intOf]; omega
                  · go_wp2_with (go_at_call 33; refine (l2full_any _ _ _ g _ _ _ _ f _ _ _ P i k _ hR hQ hlt hlt2 (hI.grow hB) (hT.grow hB) (hP.grow hB)).mono ?_; rw [hbad]; rintro _ w4 ⟨rfl, hB4⟩; replace hX := hX.later hB4; have r0 := hX.r0; have r1 := hX.r1; have r2 := hX.r2; have r3 := hX.r3; have z0 := hX.z0; have z1 := hX.z1; have z2 := hX.z2; have z3 := hX.z3; replace hB := Below.join hB (Nat.le_refl _) hB4)
                    have hve := hv.out.symm.trans (clashOf_four hF.out hS h2 h3 hlt hlt2 hbad hall2 hall)
                    refine bodyPost_ret (v := .agg #[.int .i64 4, .int .i64 i, .int .i64 k, .int .i64 0]) (by simp [results, Tryz.results8, go_sem, r0, r1, r2, r3]) rfl ⟨by rw [hve], ?_⟩
                    exact ((((hB.setCell (p := ⟨w.heap.size + 1 + 1, _, none⟩) (by simp; omega) _).setCell (p := ⟨w.heap.size + 1 + 1, _, none⟩) (by simp; omega) _).setCell (p := ⟨w.heap.size + 1 + 1, _, none⟩) (by simp; omega) _).setCell (p := ⟨w.heap.size + 1 + 1, _, none⟩) (by simp; omega) _)
                · have hke : Hid (k = (f i).nl) := (by omega : k = (f i).nl)
                  have hkn : ((f i).nl : Int) ≤ (k : Int) := by omega
                  clear hlt2 hk
                  go_wp2
                  go_roundw
                  case rel => exact ⟨i + 1, by omega, by go_num, fun j hj => (by by_cases e : j = i; (· subst e; intro m hm; exact hall2 m (by rw [hke.out]; exact hm)); (· exact hall j (by omega))), hX, hB⟩
                  case measure => simp [intOf]; omega
            · have hie : Hid (i = np) := (by omega : i = np)
              have hin' : (np : Int) ≤ (i : Int) := by omega
              have hve := hv.out.symm.trans (clashOf_zero hF.out hS h2 h3 (fun j hj => hall j (by rw [hie.out]; exact hj)))
              have r0 := hX.r0
              have r1 := hX.r1
              have r2 := hX.r2
              have r3 := hX.r3
              have z0 := hX.z0
              have z1 := hX.z1
              have z2 := hX.z2
              have z3 := hX.z3
              clear hlt hi hall hv
              go_wp2
              refine bodyPost_ret (v := .agg #[.int .i64 0, .int .i64 0, .int .i64 0, .int .i64 0]) (by simp [results, Tryz.results8, go_sem, r0, r1, r2, r3]) rfl ⟨by rw [hve], ?_⟩
              exact ((((hB.setCell (p := ⟨w.heap.size + 1 + 1, _, none⟩) (by simp; omega) _).setCell (p := ⟨w.heap.size + 1 + 1, _, none⟩) (by simp; omega) _).setCell (p := ⟨w.heap.size + 1 + 1, _, none⟩) (by simp; omega) _).setCell (p := ⟨w.heap.size + 1 + 1, _, none⟩) (by simp; omega) _)
end Go.Proofs.YtelickcfodcmaaaGreatDoor
