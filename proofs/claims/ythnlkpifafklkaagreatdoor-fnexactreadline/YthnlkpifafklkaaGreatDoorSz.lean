/-
  The laws' own measure of an argument: what it answers, and that it leaves memory alone.
-/
import Derived.Test.YthnlkpifafklkaaGreatDoorBase
namespace Go.Proofs.YthnlkpifafklkaaGreatDoor
open Go.RowKit

theorem szIntS_any (a : Option Addr) (len cap : Nat) (left : Int) (w : World) (hl : len ≤ maxLen) (h0 : 0 ≤ left) (h1 : left ≤ 1048576) :
    Calls Tryz.prog 28 #[.slice a len cap, .int .i64 left] w fun e w' => e = .returned (.int .i64 (if left < len then -1 else left - len)) ∧ w' = w := by
  unfold maxLen at hl
  by_cases h : left < (len : Int)
  · go_enter Tryz.func28, Tryz.ntmps28
    go_wp2
    go_ret
    simp
  · go_enter Tryz.func28, Tryz.ntmps28
    go_wp2
    go_ret
    simp
theorem szLegS_any (a : Option Addr) (len cap : Nat) (left : Int) (w : World) (hl : len ≤ maxLen) (h0 : 0 ≤ left) (h1 : left ≤ 1048576) :
    Calls Tryz.prog 94 #[.slice a len cap, .int .i64 left] w fun e w' => e = .returned (.int .i64 (if left < len then -1 else left - len)) ∧ w' = w := by
  unfold maxLen at hl
  by_cases h : left < (len : Int)
  · go_enter Tryz.func94, Tryz.ntmps94
    go_wp2
    go_ret
    simp
  · go_enter Tryz.func94, Tryz.ntmps94
    go_wp2
    go_ret
    simp
theorem szTrain_any (x0 x1 x2 x3 : Int) (a : Option Addr) (len cap : Nat) (left : Int) (w : World) (hl : len ≤ maxLen) (h0 : 0 ≤ left) (h1 : left ≤ 1048576) :
    Calls Tryz.prog 58 #[.agg #[.int .i64 x0, .int .i64 x1, .int .i64 x2, .int .i64 x3, .slice a len cap], .int .i64 left] w fun e w' => e = .returned (.int .i64 (if left < len then -1 else left - len)) ∧ w' = w.alloc (.cells #[.int .i64 x0, .int .i64 x1, .int .i64 x2, .int .i64 x3, .slice a len cap] 103) := by
  by_cases h : left < (len : Int)
  · go_enter Tryz.func58, Tryz.ntmps58
    go_wp2_with (go_at_call 94; refine (szLegS_any _ _ _ _ _ hl h0 h1).mono ?_; rintro e w' ⟨rfl, rfl⟩)
    go_ret
    simp
  · go_enter Tryz.func58, Tryz.ntmps58
    go_wp2_with (go_at_call 94; refine (szLegS_any _ _ _ _ _ hl h0 h1).mono ?_; rintro e w' ⟨rfl, rfl⟩)
    go_ret
    simp

set_option maxHeartbeats 1000000 in
theorem szTrainS_any (a : Option Addr) (len cap : Nat) (f : Nat → TrainD) (left : Int) (w : World) (hl : len ≤ maxLen) (h0 : 0 ≤ left) (h1 : left ≤ 1048576) (hT : IsTrains 0 w.heap.size w a len f) :
    Calls Tryz.prog 29 #[.slice a len cap, .int .i64 left] w fun e w' => (∃ r : Int, e = .returned (.int .i64 r) ∧ r ≤ 1048576 ∧ (0 ≤ r → len ≤ 1048576 ∧ ∀ j, j < len → (f j).nl ≤ 1048576)) ∧ Below w.heap.size w w' := by
  have hl' := hl
  unfold maxLen at hl
  by_cases h : left < (len : Int)
  · go_enter Tryz.func29, Tryz.ntmps29
    go_wp2
    go_ret
    exact ⟨⟨_, rfl, by omega, fun h => by omega⟩, Below.refl _ _⟩
  · go_enter Tryz.func29, Tryz.ntmps29
    go_wp2
    go_loopw [1, 5] (fun l i wr => ∃ (k : Nat) (L : Int), k ≤ len ∧ i = .int .i64 k ∧ l = .int .i64 L ∧ 0 ≤ L ∧ L ≤ 1048576 ∧ (∀ j, j < k → (f j).nl ≤ 1048576) ∧ Below w.heap.size w wr) (fun _ i _ => len - (intOf i).toNat)
    case atStart => exact ⟨0, left - len, Nat.zero_le _, rfl, rfl, by omega, by omega, fun _ h => by omega, Below.refl _ _⟩
    case round =>
      obtain ⟨k, L, hk, rfl, rfl, hL0, hL1, hall, hB⟩ := hrel
      by_cases hlt : k < len
      · obtain ⟨b, off, la, lc, rfl, _, hb, c0, c1, c2, c3, c4, hlg, hml⟩ := (hT.below hB (Nat.le_refl _)) k hlt
        by_cases hn : L < ((f k).nl : Int)
        · go_wp2_with (go_at_call 58; refine (szTrain_any _ _ _ _ _ _ _ _ _ hml hL0 hL1).mono ?_; rintro e w' ⟨rfl, rfl⟩)
          go_ret
          exact ⟨⟨_, rfl, by omega, fun h => by omega⟩, hB.alloc hB.size _⟩
        · go_wp2_with (go_at_call 58; refine (szTrain_any _ _ _ _ _ _ _ _ _ hml hL0 hL1).mono ?_; rintro e w' ⟨rfl, rfl⟩)
          go_roundw
          case rel => exact ⟨k + 1, L - (f k).nl, by omega, by go_num, by rw [if_neg (by omega)], by omega, by omega, fun j hj => (by by_cases e : j = k; (· subst e; omega); (· exact hall j (by omega))), hB.alloc hB.size _⟩
          case measure => simp [intOf]; omega
      · go_wp2
        go_ret
        exact ⟨⟨_, rfl, by omega, fun _ => ⟨by omega, fun j hj => hall j (by omega)⟩⟩, hB⟩

set_option maxHeartbeats 1000000 in
/-- szLine at 1 << 20: where it answers no negative number, nothing is long. -/
theorem szLine_any (a : Option Addr) (len cap : Nat) (gap : Int) (a' : Option Addr) (len' cap' : Nat) (f : Nat → TrainD) (w : World) (hl : len ≤ maxLen) (hl' : len' ≤ maxLen) (hT : IsTrains 0 w.heap.size w a' len' f) :
    Calls Tryz.prog 6 #[.agg #[.slice a len cap, .int .i64 gap, .slice a' len' cap'], .int .i64 1048576] w fun e w' => (∃ r : Int, e = .returned (.int .i64 r) ∧ r ≤ 1048576 ∧ (0 ≤ r → len ≤ 1048576 ∧ len' ≤ 1048576 ∧ ∀ j, j < len' → (f j).nl ≤ 1048576)) ∧ Below w.heap.size w w' := by
  have hB1 : Below w.heap.size w (w.alloc (.cells #[.slice a len cap, .int .i64 gap, .slice a' len' cap'] 25)) := (Below.refl _ _).alloc (Nat.le_refl _) _
  have hT1 : IsTrains 0 (w.alloc (.cells #[.slice a len cap, .int .i64 gap, .slice a' len' cap'] 25)).heap.size (w.alloc (.cells #[.slice a len cap, .int .i64 gap, .slice a' len' cap'] 25)) a' len' f := hT.grow hB1
  by_cases h : (1048576 : Int) < (len : Int)
  · go_enter Tryz.func6, Tryz.ntmps6
    go_wp2_with (go_at_call 28; refine (szIntS_any _ _ _ _ _ hl (by omega) (by omega)).mono ?_; rintro e w' ⟨rfl, rfl⟩)
    go_ret
    exact ⟨⟨_, rfl, by omega, fun h => by omega⟩, hB1⟩
  · go_enter Tryz.func6, Tryz.ntmps6
    go_wp2_with (first | (go_at_call 28; refine (szIntS_any _ _ _ _ _ hl (by omega) (by omega)).mono ?_; rintro e w' ⟨rfl, rfl⟩) | (go_at_call 29; refine (szTrainS_any _ _ _ f _ _ hl' (by omega) (by omega) hT1).mono ?_; rintro e w' ⟨⟨r, rfl, hr1, hr⟩, hB2⟩))
    all_goals
      go_ret
      exact ⟨⟨_, rfl, by omega, fun h => by first | omega | exact ⟨by omega, (hr h).2⟩ | exact ⟨by omega, hr h⟩⟩, hB1.trans (hB2.mono (by simp))⟩
end Go.Proofs.YthnlkpifafklkaaGreatDoor
