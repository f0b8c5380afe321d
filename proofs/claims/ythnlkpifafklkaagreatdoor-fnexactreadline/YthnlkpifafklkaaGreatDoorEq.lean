/-
  The laws' own comparisons: of two that hold the same they answer true.
-/
import Derived.Test.YthnlkpifafklkaaGreatDoorBase
import Derived.Deep.RegionHeld3
namespace Go.Proofs.YthnlkpifafklkaaGreatDoor
open Go.RowKit

theorem eqLeg_same (x y z : Int) (w : World) : Calls Tryz.prog 122 #[.agg #[.int .i64 x, .int .i64 y, .int .i64 z], .agg #[.int .i64 x, .int .i64 y, .int .i64 z]] w fun e w' => e = .returned (.bool true) ∧ Below w.heap.size w w' := by
  go_enter Tryz.func122, Tryz.ntmps122
  go_wp2
  go_ret
  exact ⟨rfl, b2 _ _ _⟩

set_option maxHeartbeats 1000000 in
theorem eqIntS_same (a b : Option Addr) (len cap cap' : Nat) (f : Nat → Int) (w : World) (hl : len ≤ 1048576) (hI : IsInts 0 w.heap.size w a len f) (hJ : IsInts 0 w.heap.size w b len f) :
    Calls Tryz.prog 13 #[.slice a len cap, .slice b len cap'] w fun e w' => e = .returned (.bool true) ∧ Below w.heap.size w w' := by
  go_enter Tryz.func13, Tryz.ntmps13
  go_wp2
  go_loopw [5] (fun i wr => ∃ (k : Nat), k ≤ len ∧ i = .int .i64 k ∧ Below w.heap.size w wr) (fun i _ => len - (intOf i).toNat)
  case atStart => exact ⟨0, Nat.zero_le _, rfl, Below.refl _ _⟩
  case round =>
    obtain ⟨k, hk, rfl, hB⟩ := hrel
    by_cases hlt : k < len
    · obtain ⟨ba, oa, rfl, _, hba, ca⟩ := (hI.below hB (Nat.le_refl _)) k hlt
      obtain ⟨bb, ob, rfl, _, hbb, cb⟩ := (hJ.below hB (Nat.le_refl _)) k hlt
      have hlt' : (k : Int) < (len : Int) := by omega
      go_wp2
      go_quiet (fail)
      go_wp2
      go_roundw
      case rel => exact ⟨k + 1, by omega, by go_num, below_drewN hB _⟩
      case measure => simp [intOf]; omega
    · go_wp2
      go_ret
      exact ⟨rfl, hB⟩

set_option maxHeartbeats 1000000 in
theorem eqLegS_same (a b : Option Addr) (len cap cap' : Nat) (f : Nat → LegD) (w : World) (hl : len ≤ 1048576) (hI : IsLegs 0 w.heap.size w a len f) (hJ : IsLegs 0 w.heap.size w b len f) :
    Calls Tryz.prog 102 #[.slice a len cap, .slice b len cap'] w fun e w' => e = .returned (.bool true) ∧ Below w.heap.size w w' := by
  go_enter Tryz.func102, Tryz.ntmps102
  go_wp2
  go_loopw [5] (fun i wr => ∃ (k : Nat), k ≤ len ∧ i = .int .i64 k ∧ Below w.heap.size w wr) (fun i _ => len - (intOf i).toNat)
  case atStart => exact ⟨0, Nat.zero_le _, rfl, Below.refl _ _⟩
  case round =>
    obtain ⟨k, hk, rfl, hB⟩ := hrel
    by_cases hlt : k < len
    · obtain ⟨ba, oa, rfl, _, hba, ca0, ca1, ca2⟩ := (hI.below hB (Nat.le_refl _)) k hlt
      obtain ⟨bb, ob, rfl, _, hbb, cb0, cb1, cb2⟩ := (hJ.below hB (Nat.le_refl _)) k hlt
      have hlt' : (k : Int) < (len : Int) := by omega
      go_wp2
      go_region_held3 (fun w' => w'.cell? ⟨ba, oa + k * 3, none⟩ = some (.int .i64 (f k).to) ∧ w'.cell? ⟨ba, oa + k * 3 + 1, none⟩ = some (.int .i64 (f k).run) ∧ w'.cell? ⟨ba, oa + k * 3 + 2, none⟩ = some (.int .i64 (f k).stay) ∧ w'.cell? ⟨bb, ob + k * 3, none⟩ = some (.int .i64 (f k).to) ∧ w'.cell? ⟨bb, ob + k * 3 + 1, none⟩ = some (.int .i64 (f k).run) ∧ w'.cell? ⟨bb, ob + k * 3 + 2, none⟩ = some (.int .i64 (f k).stay)) (first | go_keep | (go_split_ands; refine ⟨?_, ?_, ?_, ?_, ?_, ?_⟩ <;> exact cellLater hB2 (by assumption))) ((go_at_call 122; refine (eqLeg_same _ _ _ _).mono ?_; rintro e w2 ⟨rfl, hB2⟩))
      go_wp2
      go_roundw
      case rel => exact ⟨k + 1, by omega, by go_num, Below.join hB.drew (Nat.le_refl _) hB2⟩
      case measure => simp [intOf]; omega
    · go_wp2
      go_ret
      exact ⟨rfl, hB⟩

set_option maxHeartbeats 1000000 in
theorem eqTrain_same (x0 x1 x2 x3 : Int) (a b : Option Addr) (len cap cap' : Nat) (f : Nat → LegD) (w : World) (hl : len ≤ 1048576) (hI : IsLegs 0 w.heap.size w a len f) (hJ : IsLegs 0 w.heap.size w b len f) :
    Calls Tryz.prog 69 #[.agg #[.int .i64 x0, .int .i64 x1, .int .i64 x2, .int .i64 x3, .slice a len cap], .agg #[.int .i64 x0, .int .i64 x1, .int .i64 x2, .int .i64 x3, .slice b len cap']] w fun e w' => e = .returned (.bool true) ∧ Below w.heap.size w w' := by
  go_enter Tryz.func69, Tryz.ntmps69
  go_wp2_with (go_at_call 102; refine (eqLegS_same _ _ _ _ _ f _ hl (hI.grow (b2 _ _ _)) (hJ.grow (b2 _ _ _))).mono ?_; rintro e w2 ⟨rfl, hB2⟩)
  go_ret
  exact ⟨rfl, Below.join (b2 _ _ _) (Nat.le_refl _) hB2⟩

set_option maxHeartbeats 1000000 in
theorem eqTrainS_same (a b : Option Addr) (len cap cap' : Nat) (f : Nat → TrainD) (w : World) (hl : len ≤ 1048576) (hml : ∀ j, j < len → (f j).nl ≤ 1048576) (hI : IsTrains 0 w.heap.size w a len f) (hJ : IsTrains 0 w.heap.size w b len f) :
    Calls Tryz.prog 40 #[.slice a len cap, .slice b len cap'] w fun e w' => e = .returned (.bool true) ∧ Below w.heap.size w w' := by
  go_enter Tryz.func40, Tryz.ntmps40
  go_wp2
  go_loopw [5] (fun i wr => ∃ (k : Nat), k ≤ len ∧ i = .int .i64 k ∧ Below w.heap.size w wr) (fun i _ => len - (intOf i).toNat)
  case atStart => exact ⟨0, Nat.zero_le _, rfl, Below.refl _ _⟩
  case round =>
    obtain ⟨k, hk, rfl, hB⟩ := hrel
    by_cases hlt : k < len
    · obtain ⟨ba, oa, la, lac, rfl, _, hba, ca0, ca1, ca2, ca3, ca4, la5, _⟩ := (hI.below hB (Nat.le_refl _)) k hlt
      obtain ⟨bb, ob, lb, lbc, rfl, _, hbb, cb0, cb1, cb2, cb3, cb4, lb5, _⟩ := (hJ.below hB (Nat.le_refl _)) k hlt
      have la6 : IsLegs 0 wr.drew.heap.size wr.drew la (f k).nl (f k).leg := la5.mono (Nat.le_refl _) hB.size
      have lb6 : IsLegs 0 wr.drew.heap.size wr.drew lb (f k).nl (f k).leg := lb5.mono (Nat.le_refl _) hB.size
      have hlt' : (k : Int) < (len : Int) := by omega
      have hmk := hml k hlt
      go_wp2
      go_region_held3 (fun w' => w'.cell? ⟨ba, oa + k * 5, none⟩ = some (.int .i64 (f k).frm) ∧ w'.cell? ⟨ba, oa + k * 5 + 1, none⟩ = some (.int .i64 (f k).ready) ∧ w'.cell? ⟨ba, oa + k * 5 + 2, none⟩ = some (.int .i64 (f k).due) ∧ w'.cell? ⟨ba, oa + k * 5 + 3, none⟩ = some (.int .i64 (f k).weight) ∧ w'.cell? ⟨ba, oa + k * 5 + 4, none⟩ = some (.slice la (f k).nl lac) ∧ w'.cell? ⟨bb, ob + k * 5, none⟩ = some (.int .i64 (f k).frm) ∧ w'.cell? ⟨bb, ob + k * 5 + 1, none⟩ = some (.int .i64 (f k).ready) ∧ w'.cell? ⟨bb, ob + k * 5 + 2, none⟩ = some (.int .i64 (f k).due) ∧ w'.cell? ⟨bb, ob + k * 5 + 3, none⟩ = some (.int .i64 (f k).weight) ∧ w'.cell? ⟨bb, ob + k * 5 + 4, none⟩ = some (.slice lb (f k).nl lbc)) (first | go_keep | (go_split_ands; refine ⟨?_, ?_, ?_, ?_, ?_, ?_, ?_, ?_, ?_, ?_⟩ <;> exact cellLater hB2 (by assumption))) ((go_at_call 69; refine (eqTrain_same _ _ _ _ _ _ _ _ _ (f k).leg _ hmk la6 lb6).mono ?_; rintro e w2 ⟨rfl, hB2⟩))
      go_wp2
      go_roundw
      case rel => exact ⟨k + 1, by omega, by go_num, Below.join hB.drew (Nat.le_refl _) hB2⟩
      case measure => simp [intOf]; omega
    · go_wp2
      go_ret
      exact ⟨rfl, hB⟩

set_option maxHeartbeats 1000000 in
theorem eqLine_same (a : Option Addr) (len cap : Nat) (g : Nat → Int) (gap : Int) (a' : Option Addr) (len' cap' : Nat) (f : Nat → TrainD) (c c' : Option Addr) (k k' : Nat) (w : World) (hl : len ≤ 1048576) (hl' : len' ≤ 1048576) (hml : ∀ j, j < len' → (f j).nl ≤ 1048576)
    (hI : IsInts 0 w.heap.size w a len g) (hT : IsTrains 0 w.heap.size w a' len' f) (hJ : IsInts 0 w.heap.size w c len g) (hU : IsTrains 0 w.heap.size w c' len' f) :
    Calls Tryz.prog 12 #[.agg #[.slice a len cap, .int .i64 gap, .slice a' len' cap'], .agg #[.slice c len k, .int .i64 gap, .slice c' len' k']] w fun e w' => e = .returned (.bool true) ∧ Below w.heap.size w w' := by
  go_enter Tryz.func12, Tryz.ntmps12
  go_wp2_with (first | (go_at_call 13; refine (eqIntS_same _ _ _ _ _ g _ hl (hI.grow (b2 _ _ _)) (hJ.grow (b2 _ _ _))).mono ?_; rintro e w2 ⟨rfl, hB2⟩; obtain ⟨hc, hf⟩ := bcell hB2; have hBx := Below.join (b2 w _ _) (Nat.le_refl _) hB2) | (go_at_call 40; refine (eqTrainS_same _ _ _ _ _ f _ hl' hml (hT.grow hBx) (hU.grow hBx)).mono ?_; rintro e w3 ⟨rfl, hB3⟩))
  go_ret
  exact ⟨rfl, Below.join hBx (Nat.le_refl _) hB3⟩
end Go.Proofs.YthnlkpifafklkaaGreatDoor
