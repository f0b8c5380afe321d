/-
  The model's LineOk: what it answers.
-/
import Derived.Test.YtelickcfodcmaaaGreatDoorSpec
namespace Go.Proofs.YtelickcfodcmaaaGreatDoor
open Go.RowKit

set_option maxHeartbeats 4000000 in
theorem specOk_any (a : Option Addr) (len cap : Nat) (g : Nat → Int) (gap : Int) (a' : Option Addr) (len' cap' : Nat) (f : Nat → TrainD) (w : World) (hl : len ≤ 1048576) (hl' : len' ≤ 1048576) (hml : ∀ j, j < len' → (f j).nl ≤ 1048576)
    (hI : IsInts 0 w.heap.size w a len g) (hT : IsTrains 0 w.heap.size w a' len' f) :
    Calls Tryz.prog 61 #[.agg #[.slice a len cap, .int .i64 gap, .slice a' len' cap']] w fun e w' => e = .returned (.agg #[.int .i64 (faultOf len g gap len' f).1, .int .i64 (faultOf len g gap len' f).2]) ∧ Below w.heap.size w w' := by
  cases h0 : inB len 2 12
  · have hF : faultOf len g gap len' f = (1, 0) := faultOf_one (by simp [h0])
    rw [hF]
    go_enter Tryz.func61, Tryz.ntmps61
    go_wp2_with (go_at_call 62; refine (l1in_any _ _ _ _).mono ?_; rintro e w' ⟨rfl, rfl⟩)
    exact bodyPost_ret (v := .agg #[.int .i64 1, .int .i64 0]) (by simp [results, Tryz.results61, go_sem]) rfl ⟨rfl, b2 _ _ _⟩
  cases h1 : inB gap 0 10000
  · have hF : faultOf len g gap len' f = (1, 0) := faultOf_one (by simp [h1])
    rw [hF]
    go_enter Tryz.func61, Tryz.ntmps61
    go_wp2_with (go_at_call 62; refine (l1in_any _ _ _ _).mono ?_; rintro e w' ⟨rfl, rfl⟩)
    exact bodyPost_ret (v := .agg #[.int .i64 1, .int .i64 0]) (by simp [results, Tryz.results61, go_sem]) rfl ⟨rfl, b2 _ _ _⟩
  by_cases h2 : 5 < len'
  · have hF : faultOf len g gap len' f = (1, 0) := faultOf_one (by omega)
    rw [hF]
    have h2' : (5 : Int) < (len' : Int) := by omega
    go_enter Tryz.func61, Tryz.ntmps61
    go_wp2_with (go_at_call 62; refine (l1in_any _ _ _ _).mono ?_; rintro e w' ⟨rfl, rfl⟩)
    exact bodyPost_ret (v := .agg #[.int .i64 1, .int .i64 0]) (by simp [results, Tryz.results61, go_sem]) rfl ⟨rfl, b2 _ _ _⟩
  have h2' : (len' : Int) ≤ 5 := by omega
  by_cases h3 : 10 < legSum f len'
  · have hF : faultOf len g gap len' f = (1, 0) := faultOf_one (by omega)
    rw [hF]
    have h3' : (10 : Int) < (legSum f len' : Int) := by omega
    go_enter Tryz.func61, Tryz.ntmps61
    go_wp2_with (first | (go_at_call 62; refine (l1in_any _ _ _ _).mono ?_; rintro e w' ⟨rfl, rfl⟩) | (go_at_call 92; refine (l1legs_any _ _ _ _ _ _ _ f _ (by omega) hml (hT.grow (b2 _ _ _))).mono ?_; rintro e w2 ⟨rfl, hB2⟩; obtain ⟨hc, hf⟩ := bcell hB2))
    exact bodyPost_ret (v := .agg #[.int .i64 1, .int .i64 0]) (by simp [results, Tryz.results61, go_sem, hc]) rfl ⟨rfl, ((Below.join (b2 _ _ _) (Nat.le_refl _) hB2).setCell (p := ⟨w.heap.size + 1, _, none⟩) (by simp) _).setCell (p := ⟨w.heap.size + 1, _, none⟩) (by simp) _⟩
  have h3' : (legSum f len' : Int) ≤ 10 := by omega
  have hok : inB len 2 12 = true ∧ inB gap 0 10000 = true ∧ len' ≤ 5 ∧ legSum f len' ≤ 10 := ⟨h0, h1, by omega, by omega⟩
  have hlen : len ≤ 12 := by have := (of_decide_eq_true h0).2; omega
  go_enter Tryz.func61, Tryz.ntmps61
  go_wp2_with (first | (go_at_call 62; refine (l1in_any _ _ _ _).mono ?_; rintro e w' ⟨rfl, rfl⟩) | (go_at_call 92; refine (l1legs_any _ _ _ _ _ _ _ f _ (by omega) hml (hT.grow (b2 _ _ _))).mono ?_; rintro e w2 ⟨rfl, hB2⟩; obtain ⟨hc, hf⟩ := bcell hB2; have hBx := Below.join (b2 w _ _) (Nat.le_refl _) hB2; have hz : w.heap.size + 1 < w2.heap.size := (by have := hB2.size; simp at this; omega)))
  go_loop [33] (fun i => ∃ (k : Nat), k ≤ len ∧ i = .int .i64 k ∧ (∀ j, j < k → inB (g j) 1 10 = true)) (fun i => len - (intOf i).toNat)
  case atStart => exact ⟨0, Nat.zero_le _, rfl, fun _ h => by omega⟩
  case round =>
    obtain ⟨k, hk, rfl, hall⟩ := hrel
    by_cases hlt : k < len
    · obtain ⟨b, off, rfl, _, hb, c0⟩ := (hI.below hBx (Nat.le_refl _)) k hlt
      cases e0 : inB (g k) 1 10
      · go_wp2_with (go_at_call 62; refine (l1in_any _ _ _ _).mono ?_; rintro e w' ⟨rfl, rfl⟩)
        exact bodyPost_ret (v := .agg #[.int .i64 2, .int .i64 k]) (by simp [results, Tryz.results61, go_sem, hc]) rfl ⟨by rw [faultOf_two hok hlt e0 hall], (hBx.setCell (p := ⟨w.heap.size + 1, _, none⟩) (by simp) _).setCell (p := ⟨w.heap.size + 1, _, none⟩) (by simp) _⟩
      · go_wp2_with (go_at_call 62; refine (l1in_any _ _ _ _).mono ?_; rintro e w' ⟨rfl, rfl⟩)
        go_round
        case rel => exact ⟨k + 1, by omega, by go_num, fun j hj => (by by_cases e : j = k; (· subst e; exact e0); (· exact hall j (by omega)))⟩
        case measure => simp [intOf]; omega
    · obtain rfl : k = len := by omega
      go_wp2
      go_loopw [47] (fun i wr => ∃ (m : Nat), m ≤ len' ∧ i = .int .i64 m ∧ (∀ j, j < m → trainB k (f j) = true) ∧ Below w2.heap.size w2 wr) (fun i _ => len' - (intOf i).toNat)
      case atStart => exact ⟨0, Nat.zero_le _, rfl, fun _ h => by omega, Below.refl _ _⟩
      case round =>
        obtain ⟨m, hm, rfl, hall2, hBr⟩ := hrel
        have hBw : Below w.heap.size w wr := Below.join hBx (Nat.le_refl _) hBr
        have hzr : w.heap.size + 1 < wr.heap.size := Nat.lt_of_lt_of_le hz hBr.size
        have hzr0 : w.heap.size < wr.heap.size := by omega
        have q0 : wr.cell? ⟨w.heap.size, 0, none⟩ = some (.slice a k cap) := (hBr.cell (p := ⟨w.heap.size, 0, none⟩) (by go_size)).trans ((hc _ _ (by go_size)).trans (by simp))
        have q1 : wr.cell? ⟨w.heap.size, 1, none⟩ = some (.int .i64 gap) := (hBr.cell (p := ⟨w.heap.size, 1, none⟩) (by go_size)).trans ((hc _ _ (by go_size)).trans (by simp))
        have q2 : wr.cell? ⟨w.heap.size, 2, none⟩ = some (.slice a' len' cap') := (hBr.cell (p := ⟨w.heap.size, 2, none⟩) (by go_size)).trans ((hc _ _ (by go_size)).trans (by simp))
        have r0 : wr.cell? ⟨w.heap.size + 1, 0, none⟩ = some (.int .i64 0) := (hBr.cell (p := ⟨w.heap.size + 1, 0, none⟩) (by go_size)).trans ((hc _ _ (by go_size)).trans (by simp))
        have r1 : wr.cell? ⟨w.heap.size + 1, 1, none⟩ = some (.int .i64 0) := (hBr.cell (p := ⟨w.heap.size + 1, 1, none⟩) (by go_size)).trans ((hc _ _ (by go_size)).trans (by simp))
        have z0 : wr.frozen? ⟨w.heap.size + 1, 0, none⟩ = false := (hBr.frozen (p := ⟨w.heap.size + 1, 0, none⟩) (by go_size)).trans ((hf _ _ (by go_size)).trans (by simp))
        have z1 : wr.frozen? ⟨w.heap.size + 1, 1, none⟩ = false := (hBr.frozen (p := ⟨w.heap.size + 1, 1, none⟩) (by go_size)).trans ((hf _ _ (by go_size)).trans (by simp))
        by_cases hlt2 : m < len'
        · obtain ⟨b, off, la, lc, rfl, _, hb, c0, c1, c2, c3, c4, hlg, hm'⟩ := (hT.below hBw (Nat.le_refl _)) m hlt2
          have hlg' : IsLegs 0 wr.heap.size wr la (f m).nl (f m).leg := hlg.mono (Nat.le_refl _) hBw.size
          clear hlg
          cases e1 : trainB k (f m)
          · go_wp2_with (go_at_call 94; refine (l1train_any _ _ _ _ _ _ _ (f m) _ _ _ hlen (hml m hlt2) (hlg'.grow (b1 _ _))).mono ?_; rintro e w3 ⟨rfl, hB3⟩; obtain ⟨hc3, hf3⟩ := bcell hB3)
            refine bodyPost_ret (v := .agg #[.int .i64 3, .int .i64 m]) (by simp [results, Tryz.results61, go_sem, hc3, r0, r1, hzr, hzr0]) rfl ⟨by rw [faultOf_three hok hall hlt2 e1 hall2], ?_⟩
            exact ((Below.join (hBw.alloc hBw.size _) (Nat.le_refl _) hB3).setCell (p := ⟨w.heap.size + 1, _, none⟩) (by simp) _).setCell (p := ⟨w.heap.size + 1, _, none⟩) (by simp) _
          · go_wp2_with (go_at_call 94; refine (l1train_any _ _ _ _ _ _ _ (f m) _ _ _ hlen (hml m hlt2) (hlg'.grow (b1 _ _))).mono ?_; rintro e w3 ⟨rfl, hB3⟩)
            go_roundw
            case rel => exact ⟨m + 1, by omega, by go_num, fun j hj => (by by_cases e : j = m; (· subst e; exact e1); (· exact hall2 j (by omega))), Below.join (hBr.alloc hBr.size _) (Nat.le_refl _) hB3⟩
            case measure => simp [intOf]; omega
        · obtain rfl : m = len' := by omega
          go_wp2
          refine bodyPost_ret (v := .agg #[.int .i64 0, .int .i64 0]) (by simp [results, Tryz.results61, go_sem, r0, r1]) rfl ⟨by rw [faultOf_zero hok hall hall2], ?_⟩
          exact (hBw.setCell (p := ⟨w.heap.size + 1, _, none⟩) (by simp) _).setCell (p := ⟨w.heap.size + 1, _, none⟩) (by simp) _
end Go.Proofs.YtelickcfodcmaaaGreatDoor
