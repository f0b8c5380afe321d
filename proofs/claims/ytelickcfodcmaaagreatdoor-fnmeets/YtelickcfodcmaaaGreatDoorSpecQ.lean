/-
  The model's word on a plan's shape, and when a train is at its end.
-/
import Derived.Test.YtelickcfodcmaaaGreatDoorSpecP
namespace Go.Proofs.YtelickcfodcmaaaGreatDoor
open Go.RowKit

theorem shapeB_len {ntr : Nat} {f : Nat → TrainD} {np : Nat} {P : Nat → RowD} (h : np ≠ ntr) : shapeB ntr f np P = false := decide_eq_false (fun hh => h hh.1)
theorem shapeB_row {ntr : Nat} {f : Nat → TrainD} {np : Nat} {P : Nat → RowD} {i : Nat} (hi : i < np) (h : (P i).n ≠ (f i).nl) : shapeB ntr f np P = false := decide_eq_false (fun hh => h (hh.2 i hi).1)
theorem shapeB_at {ntr : Nat} {f : Nat → TrainD} {np : Nat} {P : Nat → RowD} {i k : Nat} (hi : i < np) (hk : k < (P i).n) (h : inB ((P i).s k) 0 1000000 = false) : shapeB ntr f np P = false := decide_eq_false (fun hh => by rw [(hh.2 i hi).2 k hk] at h; cases h)

set_option maxHeartbeats 4000000 in
theorem l2shape_any (a : Option Addr) (len cap : Nat) (gap : Int) (a' : Option Addr) (len' cap' : Nat) (f : Nat → TrainD) (c : Option Addr) (np nc : Nat) (P : Nat → RowD) (w : World)
    (hl' : len' ≤ 1048576) (hp : np ≤ 1048576) (hml : ∀ j, j < len' → (f j).nl ≤ 1048576) (hmp : ∀ j, j < np → (P j).n ≤ 1048576) (hT : IsTrains 0 w.heap.size w a' len' f) (hP : IsRows 0 w.heap.size w c np P) :
    Calls Tryz.prog 30 #[.agg #[.slice a len cap, .int .i64 gap, .slice a' len' cap'], .agg #[.slice c np nc]] w fun e w' => e = .returned (.bool (shapeB len' f np P)) ∧ Below w.heap.size w w' := by
  by_cases hnp : np = len'
  · subst hnp
    go_enter Tryz.func30, Tryz.ntmps30
    go_wp2
    refine nameW fun W hW => ?_
    have hB : Below w.heap.size w W := hW ▸ b2 _ _ _
    have x2 : W.cell? ⟨w.heap.size, 2, none⟩ = some (.slice a' np cap') := by rw [hW, World.cell?_alloc_lt _ _ ⟨w.heap.size, 2, none⟩ (by simp)]; exact (new3 _ _ _ _ _).2.2
    clear hW
    go_loop [19] (fun i => ∃ (m : Nat), m ≤ np ∧ i = .int .i64 m ∧ (∀ j, j < m → (P j).n = (f j).nl ∧ ∀ k, k < (P j).n → inB ((P j).s k) 0 1000000 = true)) (fun i => np - (intOf i).toNat)
    case atStart => exact ⟨0, Nat.zero_le _, rfl, fun _ h => by omega⟩
    case round =>
      obtain ⟨m, hm, rfl, hall⟩ := hrel
      by_cases hlt : m < np
      · obtain ⟨b, off, la, lc, rfl, _, hb, t0, t1, t2, t3, t4, hlg, _⟩ := (hT.below hB (Nat.le_refl _)) m hlt
        obtain ⟨bp, op, lp, lpc, rfl, _, hbp, p0, hin, _⟩ := (hP.below hB (Nat.le_refl _)) m hlt
        have hm1 := hml m hlt
        have hm2 := hmp m hlt
        by_cases hne : (P m).n = (f m).nl
        · have hne' : Hid ((P m).n = (f m).nl) := hne
          rw [hne] at p0 hin
          clear hne
          go_wp2
          go_loop [36] (fun i => ∃ (k : Nat), k ≤ (f m).nl ∧ i = .int .i64 k ∧ (∀ j, j < k → inB ((P m).s j) 0 1000000 = true)) (fun i => (f m).nl - (intOf i).toNat)
          case atStart => exact ⟨0, Nat.zero_le _, rfl, fun _ h => by omega⟩
          case round =>
            obtain ⟨k, hk, rfl, hall2⟩ := hrel
            by_cases hlt2 : k < (f m).nl
            · obtain ⟨bi, oi, rfl, _, hbi, q0⟩ := hin k hlt2
              cases e0 : inB ((P m).s k) 0 1000000
              · go_wp2_with (go_at_call 62; refine (l1in_any _ _ _ _).mono ?_; rintro e w' ⟨rfl, rfl⟩)
                go_ret
                exact ⟨by rw [shapeB_at hlt (by rw [hne'.out]; exact hlt2) e0]; rfl, hB⟩
              · go_wp2_with (go_at_call 62; refine (l1in_any _ _ _ _).mono ?_; rintro e w' ⟨rfl, rfl⟩)
                go_round
                case rel => exact ⟨k + 1, by omega, by go_num, fun j hj => (by by_cases e : j = k; (· subst e; exact e0); (· exact hall2 j (by omega)))⟩
                case measure => simp [intOf]; omega
            · obtain rfl : k = (f m).nl := by omega
              go_wp2
              go_round
              case rel => exact ⟨m + 1, by omega, by go_num, fun j hj => (by by_cases e : j = m; (· subst e; exact ⟨hne'.out, fun k hk => hall2 k (by rw [← hne'.out]; exact hk)⟩); (· exact hall j (by omega)))⟩
              case measure => simp [intOf]; omega
        · have hne' : (((P m).n : Int) == ((f m).nl : Int)) = false := by simp; omega
          go_wp2
          go_ret
          exact ⟨by rw [shapeB_row hlt hne]; rfl, hB⟩
      · obtain rfl : m = np := by omega
        go_wp2
        go_ret
        exact ⟨by rw [show shapeB m f m P = true from decide_eq_true ⟨rfl, hall⟩]; rfl, hB⟩
  · have hne' : ((np : Int) == (len' : Int)) = false := by simp; omega
    go_enter Tryz.func30, Tryz.ntmps30
    go_wp2
    go_ret
    exact ⟨by rw [shapeB_len hnp]; rfl, b2 _ _ _⟩

theorem box2 (w : World) (a : Option Addr) (len cap : Nat) (gap : Int) (a' : Option Addr) (len' cap' : Nat) (c : Option Addr) (np nc : Nat) (t t' : TypeId) :
    ((w.alloc (.cells #[.slice a len cap, .int .i64 gap, .slice a' len' cap'] t)).alloc (.cells #[.slice c np nc] t')).cell? ⟨w.heap.size, 0, none⟩ = some (.slice a len cap) ∧ ((w.alloc (.cells #[.slice a len cap, .int .i64 gap, .slice a' len' cap'] t)).alloc (.cells #[.slice c np nc] t')).cell? ⟨w.heap.size, 1, none⟩ = some (.int .i64 gap) ∧
    ((w.alloc (.cells #[.slice a len cap, .int .i64 gap, .slice a' len' cap'] t)).alloc (.cells #[.slice c np nc] t')).cell? ⟨w.heap.size, 2, none⟩ = some (.slice a' len' cap') ∧ ((w.alloc (.cells #[.slice a len cap, .int .i64 gap, .slice a' len' cap'] t)).alloc (.cells #[.slice c np nc] t')).cell? ⟨w.heap.size + 1, 0, none⟩ = some (.slice c np nc) := by
  obtain ⟨n0, n1, n2⟩ := new3 w (.slice a len cap) (.int .i64 gap) (.slice a' len' cap') t
  exact ⟨cellLater (b1 _ _) n0, cellLater (b1 _ _) n1, cellLater (b1 _ _) n2, by rw [World.cell?_alloc_at _ _ _ _ (by simp)]; rfl⟩
end Go.Proofs.YtelickcfodcmaaaGreatDoor
