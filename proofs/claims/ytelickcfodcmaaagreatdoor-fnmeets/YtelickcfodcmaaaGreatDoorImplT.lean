/-
  The program's checks of a train and of its legs: what they answer.
-/
import Derived.Test.YtelickcfodcmaaaGreatDoorSpec
namespace Go.Proofs.YtelickcfodcmaaaGreatDoor
open Go.RowKit

theorem within_any (n low high : Int) (w : World) : Calls Tryz.prog 52 #[.int .i64 n, .int .i64 low, .int .i64 high] w fun e w' => e = .returned (.bool (inB n low high)) ∧ w' = w := by
  unfold inB
  by_cases h1 : low ≤ n <;> by_cases h2 : n ≤ high
  all_goals
    go_enter Tryz.func52, Tryz.ntmps52
    go_wp2
    go_ret
    simp [h1, h2]
theorem beside_any (a b : Int) (w : World) (h0 : 0 ≤ a) (h1 : a ≤ 11) (h2 : 0 ≤ b) (h3 : b ≤ 11) : Calls Tryz.prog 183 #[.int .i64 a, .int .i64 b] w fun e w' => e = .returned (.bool (nextTo a b)) ∧ w' = w := by
  rcases near a b with ⟨n1, n2, eN⟩ | ⟨n1, n2, eN⟩ | ⟨n1, n2, eN⟩
  · have m1 : a - b ≠ 1 := by omega
    have m2 : b - a ≠ 1 := by omega
    clear n1 n2
    go_enter Tryz.func183, Tryz.ntmps183
    go_wp2
    go_ret
    simp [eN, m1, m2]
  · have m1 : a - b ≠ 1 := by omega
    have m2 : b - a = 1 := by omega
    clear n1 n2
    go_enter Tryz.func183, Tryz.ntmps183
    go_wp2
    go_ret
    simp [eN]
  · have m1 : a - b = 1 := by omega
    clear n1 n2
    go_enter Tryz.func183, Tryz.ntmps183
    go_wp2
    go_ret
    simp [eN]

set_option maxHeartbeats 4000000 in
theorem legsOk_any (t : TrainD) (n : Nat) (la : Option Addr) (lc : Nat) (w : World) (hl : n ≤ 12) (h0 : inB t.frm 0 (n - 1) = true) (hL : IsLegs 0 w.heap.size w la t.nl t.leg) (hml : t.nl ≤ 1048576) :
    Calls Tryz.prog 179 #[.agg #[.int .i64 t.frm, .int .i64 t.ready, .int .i64 t.due, .int .i64 t.weight, .slice la t.nl lc], .int .i64 n] w fun e w' => e = .returned (.bool (legsB n t)) ∧ Below w.heap.size w w' := by
  have bad : ∀ k, k < t.nl → legB n (cur t k) (t.leg k) = false → legsB n t = false := fun k hk h => decide_eq_false (fun hh => by rw [hh k hk] at h; cases h)
  go_enter Tryz.func179, Tryz.ntmps179
  go_wp2
  go_loopw [5, 13] (fun at_ i wr => ∃ (k : Nat), k ≤ t.nl ∧ i = .int .i64 k ∧ at_ = .int .i64 (cur t k) ∧ inB (cur t k) 0 (n - 1) = true ∧ (∀ j, j < k → legB n (cur t j) (t.leg j) = true) ∧ Below w.heap.size w wr) (fun _ i _ => t.nl - (intOf i).toNat)
  case atStart => exact ⟨0, Nat.zero_le _, rfl, rfl, h0, fun _ h => by omega, b1 _ _⟩
  case round =>
    obtain ⟨k, hk, rfl, rfl, hcur, hall, hB⟩ := hrel
    have hcu := of_decide_eq_true hcur
    have hcu1 := hcu.1
    have hcu2 : cur t k ≤ 11 := by omega
    clear hcu
    by_cases hlt : k < t.nl
    · obtain ⟨b, off, rfl, _, hb, c0, c1, c2⟩ := (hL.below hB (Nat.le_refl _)) k hlt
      cases e0 : inB (t.leg k).to 0 (n - 1)
      · go_wp2_with (go_at_call 52; refine (within_any _ _ _ _).mono ?_; rintro e w' ⟨rfl, rfl⟩)
        go_ret
        exact ⟨by rw [bad k hlt (by simp [legB, e0])]; rfl, hB.alloc hB.size _⟩
      have hto := of_decide_eq_true e0
      have hto1 := hto.1
      have hto2 : (t.leg k).to ≤ 11 := by omega
      clear hto
      cases eN : nextTo (cur t k) (t.leg k).to
      · go_wp2_with (first | (go_at_call 52; refine (within_any _ _ _ _).mono ?_; rintro e w' ⟨rfl, rfl⟩) | (go_at_call 183; refine (beside_any _ _ _ hcu1 hcu2 hto1 hto2).mono ?_; rintro e w' ⟨rfl, rfl⟩))
        go_ret
        exact ⟨by rw [bad k hlt (by simp [legB, eN])]; rfl, hB.alloc hB.size _⟩
      cases e1 : inB (t.leg k).run 1 10000
      · go_wp2_with (first | (go_at_call 52; refine (within_any _ _ _ _).mono ?_; rintro e w' ⟨rfl, rfl⟩) | (go_at_call 183; refine (beside_any _ _ _ hcu1 hcu2 hto1 hto2).mono ?_; rintro e w' ⟨rfl, rfl⟩))
        go_ret
        exact ⟨by rw [bad k hlt (by simp [legB, e1])]; rfl, hB.alloc hB.size _⟩
      cases e2 : inB (t.leg k).stay 0 10000
      · go_wp2_with (first | (go_at_call 52; refine (within_any _ _ _ _).mono ?_; rintro e w' ⟨rfl, rfl⟩) | (go_at_call 183; refine (beside_any _ _ _ hcu1 hcu2 hto1 hto2).mono ?_; rintro e w' ⟨rfl, rfl⟩))
        go_ret
        exact ⟨by rw [bad k hlt (by simp [legB, e2])]; rfl, hB.alloc hB.size _⟩
      go_wp2_with (first | (go_at_call 52; refine (within_any _ _ _ _).mono ?_; rintro e w' ⟨rfl, rfl⟩) | (go_at_call 183; refine (beside_any _ _ _ hcu1 hcu2 hto1 hto2).mono ?_; rintro e w' ⟨rfl, rfl⟩))
      go_roundw
      case rel => exact ⟨k + 1, by omega, by go_num, rfl, e0, fun j hj => (by by_cases e : j = k; (· subst e; simp [legB, e0, eN, e1, e2]); (· exact hall j (by omega))), hB.alloc hB.size _⟩
      case measure => simp [intOf]; omega
    · obtain rfl : k = t.nl := by omega
      go_wp2
      go_ret
      exact ⟨by rw [show legsB n t = true from decide_eq_true hall]; rfl, hB⟩

set_option maxHeartbeats 4000000 in
theorem trainOk_any (t : TrainD) (n : Nat) (la : Option Addr) (lc : Nat) (w : World) (hl : n ≤ 12) (hL : IsLegs 0 w.heap.size w la t.nl t.leg) (hml : t.nl ≤ 1048576) :
    Calls Tryz.prog 173 #[.agg #[.int .i64 t.frm, .int .i64 t.ready, .int .i64 t.due, .int .i64 t.weight, .slice la t.nl lc], .int .i64 n] w fun e w' => e = .returned (.bool (trainB n t)) ∧ Below w.heap.size w w' := by
  cases h0 : inB t.frm 0 (n - 1)
  · go_enter Tryz.func173, Tryz.ntmps173
    go_wp2_with (go_at_call 52; refine (within_any _ _ _ _).mono ?_; rintro e w' ⟨rfl, rfl⟩)
    go_ret
    exact ⟨by rw [trainB_no (.inl h0)]; rfl, b1 _ _⟩
  cases h1 : inB t.ready 0 100000
  · go_enter Tryz.func173, Tryz.ntmps173
    go_wp2_with (go_at_call 52; refine (within_any _ _ _ _).mono ?_; rintro e w' ⟨rfl, rfl⟩)
    go_ret
    exact ⟨by rw [trainB_no (.inr (.inl h1))]; rfl, b1 _ _⟩
  cases h2 : inB t.due 0 100000
  · go_enter Tryz.func173, Tryz.ntmps173
    go_wp2_with (go_at_call 52; refine (within_any _ _ _ _).mono ?_; rintro e w' ⟨rfl, rfl⟩)
    go_ret
    exact ⟨by rw [trainB_no (.inr (.inr (.inl h2)))]; rfl, b1 _ _⟩
  cases h3 : inB t.weight 1 100
  · go_enter Tryz.func173, Tryz.ntmps173
    go_wp2_with (go_at_call 52; refine (within_any _ _ _ _).mono ?_; rintro e w' ⟨rfl, rfl⟩)
    go_ret
    exact ⟨by rw [trainB_no (.inr (.inr (.inr (.inl h3))))]; rfl, b1 _ _⟩
  by_cases h4 : 0 < t.nl
  · have h4' : (0 : Int) < (t.nl : Int) := by omega
    have hT : trainB n t = legsB n t := by simp [trainB, h0, h1, h2, h3, h4]
    rw [hT]
    go_enter Tryz.func173, Tryz.ntmps173
    go_wp2_with (first | (go_at_call 52; refine (within_any _ _ _ _).mono ?_; rintro e w' ⟨rfl, rfl⟩) | (go_at_call 179; refine (legsOk_any t n _ _ _ hl h0 (hL.grow (b1 _ _)) hml).mono ?_; rintro e w2 ⟨rfl, hB2⟩))
    go_ret
    exact ⟨rfl, Below.join (b1 _ _) (Nat.le_refl _) hB2⟩
  · have h4' : (t.nl : Int) ≤ 0 := by omega
    go_enter Tryz.func173, Tryz.ntmps173
    go_wp2_with (go_at_call 52; refine (within_any _ _ _ _).mono ?_; rintro e w' ⟨rfl, rfl⟩)
    go_ret
    exact ⟨by rw [trainB_no (.inr (.inr (.inr (.inr (by omega)))))]; rfl, b1 _ _⟩
end Go.Proofs.YtelickcfodcmaaaGreatDoor
