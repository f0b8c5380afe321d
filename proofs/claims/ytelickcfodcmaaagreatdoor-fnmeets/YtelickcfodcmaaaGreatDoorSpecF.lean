/-
  The model's word on a station that is too full.
-/
import Derived.Test.YtelickcfodcmaaaGreatDoorSpecQ
namespace Go.Proofs.YtelickcfodcmaaaGreatDoor
open Go.RowKit

set_option maxHeartbeats 8000000 in
set_option maxRecDepth 20000 in
theorem l2full_any (a : Option Addr) (len cap : Nat) (g : Nat → Int) (gap : Int) (a' : Option Addr) (len' cap' : Nat) (f : Nat → TrainD) (c : Option Addr) (np nc : Nat) (P : Nat → RowD) (i k : Nat) (w : World)
    (hR : RightL len len' f) (hQ : RightP len' f np P) (hi : i < len') (hk : k < (f i).nl) (hI : IsInts 0 w.heap.size w a len g) (hT : IsTrains 0 w.heap.size w a' len' f) (hP : IsRows 0 w.heap.size w c np P) :
    Calls Tryz.prog 33 #[.agg #[.slice a len cap, .int .i64 gap, .slice a' len' cap'], .agg #[.slice c np nc], .int .i64 i, .int .i64 k] w fun e w' => e = .returned (.bool (fullB g len' f P i k)) ∧ Below w.heap.size w w' := by
  obtain rfl : np = len' := hQ.np
  have htr := hR.tr
  have hnt := hR.st
  have hRi := hR.train i hi
  have hnl := hRi.nl
  have hi' : (i : Int) < (np : Int) := by omega
  have hk' : (k : Int) < ((f i).nl : Int) := by omega
  obtain ⟨y0, y1, y2, u0⟩ := box2 w a len cap gap a' np cap' c np nc 26 30
  obtain ⟨b, off, la, lc, rfl, _, hb, t0, t1, t2, t3, t4, hlg, _⟩ := hT i hi
  obtain ⟨bl, ol, rfl, _, hbl, g0, g1, g2⟩ := hlg k hk
  obtain ⟨bp, op, lp, lpc, rfl, _, hbp, p0, hin, _⟩ := hP i hi
  rw [hQ.row i hi] at p0 hin
  obtain ⟨bi, oi, rfl, _, hbi, q0⟩ := hin k hk
  go_enter Tryz.func33, Tryz.ntmps33
  go_wp2
  refine nameW fun W hW => ?_
  have hB : Below w.heap.size w W := hW ▸ b2 _ _ _
  have x0 : W.cell? ⟨w.heap.size, 0, none⟩ = some (.slice a len cap) := hW ▸ y0
  have x1 : W.cell? ⟨w.heap.size, 1, none⟩ = some (.int .i64 gap) := hW ▸ y1
  have x2 : W.cell? ⟨w.heap.size, 2, none⟩ = some (.slice (some ⟨b, off, none⟩) np cap') := hW ▸ y2
  have z0 : W.cell? ⟨w.heap.size + 1, 0, none⟩ = some (.slice (some ⟨bp, op, none⟩) np nc) := hW ▸ u0
  clear hW y0 y1 y2 u0
  have hcl := countAll_le (P := P) (i := i) (k := k) (fun j hj => (hR.train j hj).nl)
  go_loopw [11, 38] (fun n jj wr => ∃ (j : Nat), j ≤ np ∧ jj = .int .i64 j ∧ n = .int .i64 (countAll f P i k j) ∧ Below W.heap.size W wr) (fun _ jj _ => np - (intOf jj).toNat)
  case atStart => exact ⟨0, Nat.zero_le _, rfl, rfl, Below.refl _ _⟩
  case round =>
    obtain ⟨j, hj, rfl, rfl, hBr⟩ := hrel
    have hBw : Below w.heap.size w wr := Below.join hB (Nat.le_refl _) hBr
    have X0 := cellLater hBr x0
    have X1 := cellLater hBr x1
    have X2 := cellLater hBr x2
    have Z0 := cellLater hBr z0
    have hlw := ltCell X0
    have hlw1 := ltCell Z0
    have hcj := hcl j hj
    by_cases hlt : j < np
    · obtain ⟨b', off', la, lac, ea, _, hb', c0, c1, c2, c3, c4, hlgj, _⟩ := (hT.below hBw (Nat.le_refl _)) j hlt
      simp only [Option.some.injEq, Addr.mk.injEq] at ea
      obtain ⟨rfl, rfl, _⟩ := ea
      have hnj := (hR.train j hlt).nl
      have hrow := hQ.row j hlt
      go_wp2
      refine nameW fun W1 hW1 => ?_
      have hB1 : Below w.heap.size w W1 := hW1 ▸ hBw.alloc hBw.size _
      have hB1' : Below W.heap.size W W1 := hW1 ▸ hBr.alloc hBr.size _
      have hlg1 : IsLegs 0 w.heap.size W1 la (f j).nl (f j).leg := hlgj.below (hW1 ▸ b1 wr _) hBw.size
      clear hW1 X0 X1 X2 Z0 hlw hlw1 c0 c1 c2 c3 c4 hlgj
      go_loopw [11, 46] (fun n mm wr => ∃ (m : Nat), m ≤ (f j).nl ∧ mm = .int .i64 m ∧ n = .int .i64 ((countAll f P i k j : Int) + (countRow f P i k j m : Int)) ∧ Below W1.heap.size W1 wr) (fun _ mm _ => (f j).nl - (intOf mm).toNat)
      case atStart => exact ⟨0, Nat.zero_le _, rfl, int_eq (by simp [countRow]), Below.refl _ _⟩
      case round =>
        obtain ⟨m, hm, rfl, rfl, hB2⟩ := hrel
        have hBz : Below w.heap.size w wr := Below.join hB1 (Nat.le_refl _) hB2
        have hBz' : Below W.heap.size W wr := Below.join hB1' (Nat.le_refl _) hB2
        have X0 := cellLater hBz' x0
        have X1 := cellLater hBz' x1
        have X2 := cellLater hBz' x2
        have Z0 := cellLater hBz' z0
        have hlw := ltCell X0
        have hlw1 := ltCell Z0
        have hcm := countRow_le f P i k j m
        have hcm' : (countRow f P i k j m : Int) ≤ 10 := by omega
        have hcj' : (countAll f P i k j : Int) ≤ 50 := by omega
        by_cases hlt2 : m < (f j).nl
        · obtain ⟨bl', ol', rfl, _, hbl', h0, h1, h2⟩ := (hlg1.below hB2 hB1.size) m hlt2
          obtain ⟨bp', op', lp', lpc', ep, _, hbp', p0', hin', _⟩ := (hP.below hBz (Nat.le_refl _)) j hlt
          simp only [Option.some.injEq, Addr.mk.injEq] at ep
          obtain ⟨rfl, rfl, _⟩ := ep
          rw [hrow] at p0' hin'
          obtain ⟨bi', oi', rfl, _, hbi', q0'⟩ := hin' m hlt2
          have hbp2 := ltCell p0'
          have hbi2 := ltCell q0'
          have hjn : (j : Int) < (np : Int) := by omega
          have hmn : (m : Int) < ((f j).nl : Int) := by omega
          have hBy : Below w.heap.size w (wr.alloc (.cells #[.int .i64 ((f j).leg m).to, .int .i64 ((f j).leg m).run, .int .i64 ((f j).leg m).stay] 74)) := hBz.alloc hBz.size _
          by_cases k1 : ((f j).leg m).to = ((f i).leg k).to
          · have k1a : ((f j).leg m).to ≤ ((f i).leg k).to := by omega
            have k1b : ((f i).leg k).to ≤ ((f j).leg m).to := by omega
            have k1h : Hid (((f j).leg m).to = ((f i).leg k).to) := k1
            clear k1
            by_cases k2 : (P i).s k < (P j).s m
            · have hsk : skipB f P i k j m = true := decide_eq_true (.inr (.inl k2))
              go_wp2
              go_roundw
              case rel => exact ⟨m + 1, by omega, by go_num, int_eq (by simp only [countRow]; rw [hsk]; simp), hB2.alloc hB2.size _⟩
              case measure => simp [intOf]; omega
            · by_cases k3 : (P j).s m = (P i).s k ∧ i < j
              · have hsk : skipB f P i k j m = true := decide_eq_true (.inr (.inr (.inl k3)))
                have k3a : (P j).s m ≤ (P i).s k := by omega
                have k3b : (P i).s k ≤ (P j).s m := by omega
                have k3c : (i : Int) < (j : Int) := by omega
                clear k3 k2
                go_wp2
                go_roundw
                case rel => exact ⟨m + 1, by omega, by go_num, int_eq (by simp only [countRow]; rw [hsk]; simp), hB2.alloc hB2.size _⟩
                case measure => simp [intOf]; omega
              · have hF0 : ¬ leavesOf f P j m < (P i).s k ∨ (j = i ∧ m = k) → skipB f P i k j m = false := fun h => decide_eq_false (by have := k1h.out; omega)
                rcases (by omega : (P j).s m < (P i).s k ∨ ((P j).s m ≤ (P i).s k ∧ (P i).s k ≤ (P j).s m ∧ (j : Int) ≤ (i : Int))) with k7 | ⟨k7, k8, k9⟩
                all_goals
                  clear k2 k3
                  by_cases k4 : leavesOf f P j m < (P i).s k
                  · by_cases k5 : j = i
                    · by_cases k6 : m = k
                      · have hsk := hF0 (.inr ⟨k5, k6⟩)
                        clear hF0
                        subst k5
                        subst k6
                        first
                          | (exfalso; omega)
                          | (go_wp2_with (go_at_call 64; refine (l2leaves_any _ _ _ _ _ _ _ f _ _ _ P j m _ hR hQ hlt hlt2 (hT.grow hBy) (hP.grow hBy)).mono ?_; rintro _ w3 ⟨rfl, hB3⟩)
                             go_roundw
                             case rel => exact ⟨m + 1, by omega, by go_num, int_eq (by simp only [countRow]; rw [hsk]; simp; omega), Below.join (hB2.alloc hB2.size _) (Nat.le_refl _) hB3⟩
                             case measure => simp [intOf]; omega)
                      · have hsk : skipB f P i k j m = true := decide_eq_true (.inr (.inr (.inr ⟨k4, .inr k6⟩)))
                        have k6a : (m : Int) ≠ (k : Int) := by omega
                        clear hF0 k6
                        subst k5
                        go_wp2_with (go_at_call 64; refine (l2leaves_any _ _ _ _ _ _ _ f _ _ _ P j m _ hR hQ hlt hlt2 (hT.grow hBy) (hP.grow hBy)).mono ?_; rintro _ w3 ⟨rfl, hB3⟩)
                        all_goals first
                          | (exfalso; rename_i hx; have hy := hx.2; simp at hy; omega)
                          | (go_roundw
                             case rel => exact ⟨m + 1, by omega, by go_num, int_eq (by simp only [countRow]; rw [hsk]; simp), Below.join (hB2.alloc hB2.size _) (Nat.le_refl _) hB3⟩
                             case measure => simp [intOf]; omega)
                    · have hsk : skipB f P i k j m = true := decide_eq_true (.inr (.inr (.inr ⟨k4, .inl k5⟩)))
                      have k5a : (j : Int) ≠ (i : Int) := by omega
                      clear hF0 k5
                      go_wp2_with (go_at_call 64; refine (l2leaves_any _ _ _ _ _ _ _ f _ _ _ P j m _ hR hQ hlt hlt2 (hT.grow hBy) (hP.grow hBy)).mono ?_; rintro _ w3 ⟨rfl, hB3⟩)
                      go_roundw
                      case rel => first | exact ⟨m + 1, by omega, by go_num, int_eq (by simp only [countRow]; rw [hsk]; simp), Below.join (hB2.alloc hB2.size _) (Nat.le_refl _) hB3⟩ | ((repeat apply Exists.intro); exact ⟨⟨m + 1, by omega, by go_num, int_eq (by simp only [countRow]; rw [hsk]; simp), Below.join (hB2.alloc hB2.size _) (Nat.le_refl _) hB3⟩, rfl⟩)
                      case measure => simp [intOf]; omega
                  · have hsk := hF0 (.inl k4)
                    have k4a : (P i).s k ≤ leavesOf f P j m := by omega
                    clear hF0 k4
                    go_wp2_with (go_at_call 64; refine (l2leaves_any _ _ _ _ _ _ _ f _ _ _ P j m _ hR hQ hlt hlt2 (hT.grow hBy) (hP.grow hBy)).mono ?_; rintro _ w3 ⟨rfl, hB3⟩)
                    go_roundw
                    case rel => first | exact ⟨m + 1, by omega, by go_num, int_eq (by simp only [countRow]; rw [hsk]; simp; omega), Below.join (hB2.alloc hB2.size _) (Nat.le_refl _) hB3⟩ | ((repeat apply Exists.intro); exact ⟨⟨m + 1, by omega, by go_num, int_eq (by simp only [countRow]; rw [hsk]; simp; omega), Below.join (hB2.alloc hB2.size _) (Nat.le_refl _) hB3⟩, rfl⟩)
                    case measure => simp [intOf]; omega
          · have hsk : skipB f P i k j m = true := decide_eq_true (.inl k1)
            go_wp2
            go_roundw
            case rel => exact ⟨m + 1, by omega, by go_num, int_eq (by simp only [countRow]; rw [hsk]; simp), hB2.alloc hB2.size _⟩
            case measure => simp [intOf]; omega
        · have hme : Hid (m = (f j).nl) := (by omega : m = (f j).nl)
          have hmn : ((f j).nl : Int) ≤ (m : Int) := by omega
          clear hlt2 hm hcm
          go_wp2
          go_roundw
          case rel => exact ⟨j + 1, by omega, by go_num, int_eq (by simp only [countAll]; rw [← hme.out]; omega), hBz'⟩
          case measure => simp [intOf]; omega
    · have hje : Hid (j = np) := (by omega : j = np)
      have hjn : (np : Int) ≤ (j : Int) := by omega
      obtain ⟨z1, z2⟩ := hR.to i hi k hk
      obtain ⟨q, hq⟩ : ∃ q : Nat, ((f i).leg k).to = (q : Int) := ⟨((f i).leg k).to.toNat, by omega⟩
      have hq' : q < len := by omega
      obtain ⟨ba, oa, rfl, _, hba, v0⟩ := (hI.below hBw (Nat.le_refl _)) q hq'
      have hql : (q : Int) < (len : Int) := by omega
      have hfb : fullB g np f P i k = decide (g q < (countAll f P i k j : Int)) := by unfold fullB; rw [hq, Int.toNat_natCast, ← hje.out]
      go_wp2
      go_ret
      exact ⟨rfl, hBw⟩
end Go.Proofs.YtelickcfodcmaaaGreatDoor
