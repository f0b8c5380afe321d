/-
  The model's functions of the first chapter: what each answers.
-/
import Derived.Test.YtelickcfodcmaaaGreatDoorPlain
namespace Go.Proofs.YtelickcfodcmaaaGreatDoor
open Go.RowKit

set_option maxHeartbeats 1000000 in
theorem l1legs_any (a : Option Addr) (len cap : Nat) (gap : Int) (a' : Option Addr) (len' cap' : Nat) (f : Nat → TrainD) (w : World) (hl' : len' ≤ 5) (hml : ∀ j, j < len' → (f j).nl ≤ 1048576) (hT : IsTrains 0 w.heap.size w a' len' f) :
    Calls Tryz.prog 92 #[.agg #[.slice a len cap, .int .i64 gap, .slice a' len' cap']] w fun e w' => e = .returned (.int .i64 (legSum f len')) ∧ Below w.heap.size w w' := by
  go_enter Tryz.func92, Tryz.ntmps92
  go_wp2
  go_loopw [3, 9] (fun n i wr => ∃ (k : Nat), k ≤ len' ∧ i = .int .i64 k ∧ n = .int .i64 (legSum f k) ∧ Below w.heap.size w wr) (fun _ i _ => len' - (intOf i).toNat)
  case atStart => exact ⟨0, Nat.zero_le _, rfl, rfl, b1 _ _⟩
  case round =>
    obtain ⟨k, hk, rfl, rfl, hB⟩ := hrel
    have hs := legSum_le hml k hk
    have hs' : (legSum f k : Int) ≤ 5242880 := by omega
    by_cases hlt : k < len'
    · obtain ⟨b, off, la, lc, rfl, _, hb, c0, c1, c2, c3, c4, hlg, hm'⟩ := (hT.below hB (Nat.le_refl _)) k hlt
      have hmk := hml k hlt
      have hmk' : ((f k).nl : Int) ≤ 1048576 := by omega
      go_wp2
      go_roundw
      case rel => exact ⟨k + 1, by omega, by go_num, by simp only [legSum]; go_num, hB.alloc hB.size _⟩
      case measure => simp [intOf]; omega
    · obtain rfl : k = len' := by omega
      go_wp2
      go_ret
      exact ⟨rfl, hB⟩

theorem trainB_no {n : Nat} {t : TrainD} (h : inB t.frm 0 (n - 1) = false ∨ inB t.ready 0 100000 = false ∨ inB t.due 0 100000 = false ∨ inB t.weight 1 100 = false ∨ t.nl = 0) : trainB n t = false := by
  unfold trainB; rcases h with h | h | h | h | h <;> simp [h]
theorem trainB_leg {n : Nat} {t : TrainD} {k : Nat} (hk : k < t.nl) (h : legB n (cur t k) (t.leg k) = false) : trainB n t = false := by
  unfold trainB legsB
  have e : decide (∀ j, j < t.nl → legB n (cur t j) (t.leg j) = true) = false := decide_eq_false (fun hh => by rw [hh k hk] at h; cases h)
  rw [e]; simp
theorem trainB_yes {n : Nat} {t : TrainD} (h0 : inB t.frm 0 (n - 1) = true) (h1 : inB t.ready 0 100000 = true) (h2 : inB t.due 0 100000 = true) (h3 : inB t.weight 1 100 = true) (h4 : 0 < t.nl) (h : ∀ j, j < t.nl → legB n (cur t j) (t.leg j) = true) : trainB n t = true := by
  unfold trainB legsB
  have e : decide (∀ j, j < t.nl → legB n (cur t j) (t.leg j) = true) = true := decide_eq_true h
  rw [e]; simp [h0, h1, h2, h3, h4]

theorem int_eq {a b : Int} (h : a = b) : Value.int .i64 a = .int .i64 b := by rw [h]
/-- how two stations lie to one another, in inequalities -/
theorem near (a b : Int) : (b ≠ a + 1 ∧ b ≠ a - 1 ∧ nextTo a b = false) ∨ (b ≤ a + 1 ∧ a + 1 ≤ b ∧ nextTo a b = true) ∨ (b ≤ a - 1 ∧ a - 1 ≤ b ∧ nextTo a b = true) := by
  unfold nextTo
  by_cases h : b = a + 1
  · exact .inr (.inl ⟨by omega, by omega, decide_eq_true (.inl h)⟩)
  by_cases h' : b = a - 1
  · exact .inr (.inr ⟨by omega, by omega, decide_eq_true (.inr h')⟩)
  · exact .inl ⟨h, h', decide_eq_false (by omega)⟩

set_option maxHeartbeats 4000000 in
theorem l1train_any (a : Option Addr) (len cap : Nat) (gap : Int) (a' : Option Addr) (len' cap' : Nat) (t : TrainD) (la : Option Addr) (lc : Nat) (w : World) (hl : len ≤ 12) (hml : t.nl ≤ 1048576) (hL : IsLegs 0 w.heap.size w la t.nl t.leg) :
    Calls Tryz.prog 94 #[.agg #[.slice a len cap, .int .i64 gap, .slice a' len' cap'], .agg #[.int .i64 t.frm, .int .i64 t.ready, .int .i64 t.due, .int .i64 t.weight, .slice la t.nl lc]] w fun e w' => e = .returned (.bool (trainB len t)) ∧ Below w.heap.size w w' := by
  cases h0 : inB t.frm 0 (len - 1)
  · go_enter Tryz.func94, Tryz.ntmps94
    go_wp2_with (go_at_call 62; refine (l1in_any _ _ _ _).mono ?_; rintro e w' ⟨rfl, rfl⟩)
    go_ret
    exact ⟨by rw [trainB_no (.inl h0)]; rfl, b2 _ _ _⟩
  cases h1 : inB t.ready 0 100000
  · go_enter Tryz.func94, Tryz.ntmps94
    go_wp2_with (go_at_call 62; refine (l1in_any _ _ _ _).mono ?_; rintro e w' ⟨rfl, rfl⟩)
    go_ret
    exact ⟨by rw [trainB_no (.inr (.inl h1))]; rfl, b2 _ _ _⟩
  cases h2 : inB t.due 0 100000
  · go_enter Tryz.func94, Tryz.ntmps94
    go_wp2_with (go_at_call 62; refine (l1in_any _ _ _ _).mono ?_; rintro e w' ⟨rfl, rfl⟩)
    go_ret
    exact ⟨by rw [trainB_no (.inr (.inr (.inl h2)))]; rfl, b2 _ _ _⟩
  cases h3 : inB t.weight 1 100
  · go_enter Tryz.func94, Tryz.ntmps94
    go_wp2_with (go_at_call 62; refine (l1in_any _ _ _ _).mono ?_; rintro e w' ⟨rfl, rfl⟩)
    go_ret
    exact ⟨by rw [trainB_no (.inr (.inr (.inr (.inl h3))))]; rfl, b2 _ _ _⟩
  by_cases h4 : t.nl = 0
  · have h4' : ((t.nl : Int) == 0) = true := by simp [h4]
    go_enter Tryz.func94, Tryz.ntmps94
    go_wp2_with (go_at_call 62; refine (l1in_any _ _ _ _).mono ?_; rintro e w' ⟨rfl, rfl⟩)
    go_ret
    exact ⟨by rw [trainB_no (.inr (.inr (.inr (.inr h4))))]; rfl, b2 _ _ _⟩
  have h4' : ((t.nl : Int) == 0) = false := by simp [h4]
  go_enter Tryz.func94, Tryz.ntmps94
  go_wp2_with (go_at_call 62; refine (l1in_any _ _ _ _).mono ?_; rintro e w' ⟨rfl, rfl⟩)
  go_loopw [5, 45] (fun at_ i wr => ∃ (k : Nat), k ≤ t.nl ∧ i = .int .i64 k ∧ at_ = .int .i64 (cur t k) ∧ inB (cur t k) 0 (len - 1) = true ∧ (∀ j, j < k → legB len (cur t j) (t.leg j) = true) ∧ wr.cell? ⟨w.heap.size, 0, none⟩ = some (.slice a len cap) ∧ Below w.heap.size w wr) (fun _ i _ => t.nl - (intOf i).toNat)
  case atStart => exact ⟨0, Nat.zero_le _, rfl, rfl, h0, fun _ h => by omega, by simp, b2 _ _ _⟩
  case round =>
    obtain ⟨k, hk, rfl, rfl, hcur, hall, hbox, hB⟩ := hrel
    have hcu := of_decide_eq_true hcur
    have hcu1 := hcu.1
    have hcu2 := hcu.2
    clear hcu
    by_cases hlt : k < t.nl
    · obtain ⟨b, off, rfl, _, hb, c0, c1, c2⟩ := (hL.below hB (Nat.le_refl _)) k hlt
      have hlw := ltCell hbox
      cases e0 : inB (t.leg k).to 0 (len - 1)
      · go_wp2_with (go_at_call 62; refine (l1in_any _ _ _ _).mono ?_; rintro e w' ⟨rfl, rfl⟩)
        go_ret
        exact ⟨by rw [trainB_leg hlt (by simp [legB, e0])]; rfl, hB.alloc hB.size _⟩
      rcases near (cur t k) (t.leg k).to with ⟨n1, n2, eN⟩ | ⟨n1, n2, eN⟩ | ⟨n1, n2, eN⟩
      · go_wp2_with (go_at_call 62; refine (l1in_any _ _ _ _).mono ?_; rintro e w' ⟨rfl, rfl⟩)
        go_ret
        exact ⟨by rw [trainB_leg hlt (by simp [legB, eN])]; rfl, hB.alloc hB.size _⟩
      all_goals
        cases e1 : inB (t.leg k).run 1 10000
        · go_wp2_with (go_at_call 62; refine (l1in_any _ _ _ _).mono ?_; rintro e w' ⟨rfl, rfl⟩)
          go_ret
          exact ⟨by rw [trainB_leg hlt (by simp [legB, e1])]; rfl, hB.alloc hB.size _⟩
        cases e2 : inB (t.leg k).stay 0 10000
        · go_wp2_with (go_at_call 62; refine (l1in_any _ _ _ _).mono ?_; rintro e w' ⟨rfl, rfl⟩)
          go_ret
          exact ⟨by rw [trainB_leg hlt (by simp [legB, e2])]; rfl, hB.alloc hB.size _⟩
        go_wp2_with (go_at_call 62; refine (l1in_any _ _ _ _).mono ?_; rintro e w' ⟨rfl, rfl⟩)
        go_roundw
        case rel => exact ⟨k + 1, by omega, by go_num, int_eq (by rw [show cur t (k + 1) = (t.leg k).to from rfl]; omega), e0, fun j hj => (by by_cases e : j = k; (· subst e; simp [legB, e0, eN, e1, e2]); (· exact hall j (by omega))), by rw [World.cell?_alloc_lt _ _ _ hlw]; exact hbox, hB.alloc hB.size _⟩
        case measure => simp [intOf]; omega
    · obtain rfl : k = t.nl := by omega
      go_wp2
      go_ret
      exact ⟨by rw [trainB_yes h0 h1 h2 h3 (by omega) hall]; rfl, hB⟩
end Go.Proofs.YtelickcfodcmaaaGreatDoor
