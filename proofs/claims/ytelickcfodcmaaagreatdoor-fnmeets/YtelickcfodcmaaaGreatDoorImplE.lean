/-
  The program's checks of a line's tracks and trains, and all of them together, as one error.
-/
import Derived.Test.YtelickcfodcmaaaGreatDoorImplL
namespace Go.Proofs.YtelickcfodcmaaaGreatDoor
open Go.RowKit

def errV (c : Int) : Option Nat → Value
  | none => .nilIface
  | some k => .iface 162 (.agg #[.int .i64 c, .int .i64 k])
/-- a fault as an error: the zero value is no error -/
def errP (p : Int × Int) : Value := if p.1 = 0 then .nilIface else .iface 162 (.agg #[.int .i64 p.1, .int .i64 p.2])

set_option maxHeartbeats 2000000 in
theorem tracksError_any (a : Option Addr) (len cap : Nat) (g : Nat → Int) (w : World) (_hl : len ≤ 12) (hI : IsInts 0 w.heap.size w a len g) :
    Calls Tryz.prog 148 #[.slice a len cap] w fun e w' => e = .returned (errV 2 (firstBad (fun i => inB (g i) 1 10) len)) ∧ w' = w := by
  go_enter Tryz.func148, Tryz.ntmps148
  go_wp2
  go_loop [7] (fun i => ∃ (k : Nat), k ≤ len ∧ i = .int .i64 k ∧ (∀ j, j < k → inB (g j) 1 10 = true)) (fun i => len - (intOf i).toNat)
  case atStart => exact ⟨0, Nat.zero_le _, rfl, fun _ h => by omega⟩
  case round =>
    obtain ⟨k, hk, rfl, hall⟩ := hrel
    by_cases hlt : k < len
    · obtain ⟨b, off, rfl, _, hb, c0⟩ := hI k hlt
      cases e0 : inB (g k) 1 10
      · go_wp2_with (go_at_call 52; refine (within_any _ _ _ _).mono ?_; rintro e w' ⟨rfl, rfl⟩)
        go_ret
        exact ⟨by rw [firstBad_some (p := fun i => inB (g i) 1 10) e0 hall hlt]; rfl, rfl⟩
      · go_wp2_with (go_at_call 52; refine (within_any _ _ _ _).mono ?_; rintro e w' ⟨rfl, rfl⟩)
        go_round
        case rel => exact ⟨k + 1, by omega, by go_num, fun j hj => (by by_cases e : j = k; (· subst e; exact e0); (· exact hall j (by omega)))⟩
        case measure => simp [intOf]; omega
    · obtain rfl : k = len := by omega
      go_wp2
      go_ret
      exact ⟨by rw [firstBad_none (p := fun i => inB (g i) 1 10) hall]; rfl, rfl⟩

set_option maxHeartbeats 2000000 in
theorem trainsError_any (a : Option Addr) (len cap : Nat) (gap : Int) (a' : Option Addr) (len' cap' : Nat) (f : Nat → TrainD) (w : World) (hl : len ≤ 12) (_hl' : len' ≤ 5) (hml : ∀ j, j < len' → (f j).nl ≤ 1048576) (hT : IsTrains 0 w.heap.size w a' len' f) :
    Calls Tryz.prog 149 #[.agg #[.slice a len cap, .int .i64 gap, .slice a' len' cap']] w fun e w' => e = .returned (errV 3 (firstBad (fun i => trainB len (f i)) len')) ∧ Below w.heap.size w w' := by
  go_enter Tryz.func149, Tryz.ntmps149
  go_wp2
  go_loopw [8] (fun i wr => ∃ (m : Nat), m ≤ len' ∧ i = .int .i64 m ∧ (∀ j, j < m → trainB len (f j) = true) ∧ wr.cell? ⟨w.heap.size, 0, none⟩ = some (.slice a len cap) ∧ Below w.heap.size w wr) (fun i _ => len' - (intOf i).toNat)
  case atStart => exact ⟨0, Nat.zero_le _, rfl, fun _ h => by omega, by simp, b1 _ _⟩
  case round =>
    obtain ⟨m, hm, rfl, hall, hbox, hB⟩ := hrel
    by_cases hlt : m < len'
    · obtain ⟨b, off, la, lc, rfl, _, hb, c0, c1, c2, c3, c4, hlg, hm'⟩ := (hT.below hB (Nat.le_refl _)) m hlt
      have hlg' : IsLegs 0 wr.heap.size wr la (f m).nl (f m).leg := hlg.mono (Nat.le_refl _) hB.size
      have hlw := ltCell hbox
      clear hlg
      cases e1 : trainB len (f m)
      · go_wp2_with (go_at_call 173; refine (trainOk_any (f m) len _ _ _ hl (hlg'.grow (b1 _ _)) (hml m hlt)).mono ?_; rintro e w3 ⟨rfl, hB3⟩)
        go_ret
        exact ⟨by rw [firstBad_some (p := fun i => trainB len (f i)) e1 hall hlt]; rfl, Below.join (hB.alloc hB.size _) (Nat.le_refl _) hB3⟩
      · go_wp2_with (go_at_call 173; refine (trainOk_any (f m) len _ _ _ hl (hlg'.grow (b1 _ _)) (hml m hlt)).mono ?_; rintro e w3 ⟨rfl, hB3⟩)
        go_roundw
        case rel => exact ⟨m + 1, by omega, by go_num, fun j hj => (by by_cases e : j = m; (· subst e; exact e1); (· exact hall j (by omega))), cellLater hB3 (by rw [World.cell?_alloc_lt _ _ _ hlw]; exact hbox), Below.join (hB.alloc hB.size _) (Nat.le_refl _) hB3⟩
        case measure => simp [intOf]; omega
    · obtain rfl : m = len' := by omega
      go_wp2
      go_ret
      exact ⟨by rw [firstBad_none (p := fun i => trainB len (f i)) hall]; rfl, hB⟩

theorem tracksError_bad (a : Option Addr) (len cap : Nat) (g : Nat → Int) (w : World) (hl : len ≤ 12) (hI : IsInts 0 w.heap.size w a len g) (k : Nat) (hF : firstBad (fun i => inB (g i) 1 10) len = some k) :
    Calls Tryz.prog 148 #[.slice a len cap] w fun e w' => e = .returned (.iface 162 (.agg #[.int .i64 2, .int .i64 k])) ∧ w' = w := by
  have h := tracksError_any a len cap g w hl hI
  rw [hF] at h; exact h
theorem tracksError_ok (a : Option Addr) (len cap : Nat) (g : Nat → Int) (w : World) (hl : len ≤ 12) (hI : IsInts 0 w.heap.size w a len g) (hF : firstBad (fun i => inB (g i) 1 10) len = none) :
    Calls Tryz.prog 148 #[.slice a len cap] w fun e w' => e = .returned .nilIface ∧ w' = w := by
  have h := tracksError_any a len cap g w hl hI
  rw [hF] at h; exact h
theorem trainsError_hid (a : Option Addr) (len cap : Nat) (gap : Int) (a' : Option Addr) (len' cap' : Nat) (f : Nat → TrainD) (w : World) (hl : len ≤ 12) (hl' : len' ≤ 5) (hml : ∀ j, j < len' → (f j).nl ≤ 1048576) (hT : IsTrains 0 w.heap.size w a' len' f) (v : Value) (hv : errV 3 (firstBad (fun i => trainB len (f i)) len') = v) :
    Calls Tryz.prog 149 #[.agg #[.slice a len cap, .int .i64 gap, .slice a' len' cap']] w fun e w' => e = .returned v ∧ Below w.heap.size w w' := by
  subst hv; exact trainsError_any a len cap gap a' len' cap' f w hl hl' hml hT

set_option maxHeartbeats 2000000 in
theorem lineError_one (a : Option Addr) (len cap : Nat) (gap : Int) (a' : Option Addr) (len' cap' : Nat) (f : Nat → TrainD) (w : World) (hl : len ≤ 1048576) (hl' : len' ≤ 1048576) (hml : ∀ j, j < len' → (f j).nl ≤ 1048576)
    (hT : IsTrains 0 w.heap.size w a' len' f) (hno : ¬ (inB len 2 12 = true ∧ inB gap 0 10000 = true ∧ len' ≤ 5 ∧ legSum f len' ≤ 10)) :
    Calls Tryz.prog 106 #[.agg #[.slice a len cap, .int .i64 gap, .slice a' len' cap']] w fun e w' => e = .returned (.iface 162 (.agg #[.int .i64 1, .int .i64 0])) ∧ Below w.heap.size w w' := by
  have hno' : Hid (¬ (inB len 2 12 = true ∧ inB gap 0 10000 = true ∧ len' ≤ 5 ∧ legSum f len' ≤ 10)) := hno
  clear hno
  go_enter Tryz.func106, Tryz.ntmps106
  go_wp2_with (go_at_call 147; refine (sizeError_bad _ _ _ _ _ _ _ f _ hl hl' hml (hT.grow (b1 _ _)) hno'.out).mono ?_; rintro e w2 ⟨rfl, hB2⟩)
  go_ret
  exact ⟨rfl, Below.join (b1 _ _) (Nat.le_refl _) hB2⟩

set_option maxHeartbeats 2000000 in
theorem lineError_two (a : Option Addr) (len cap : Nat) (g : Nat → Int) (gap : Int) (a' : Option Addr) (len' cap' : Nat) (f : Nat → TrainD) (w : World) (hlen : len ≤ 12) (hml : ∀ j, j < len' → (f j).nl ≤ 1048576)
    (hI : IsInts 0 w.heap.size w a len g) (hT : IsTrains 0 w.heap.size w a' len' f) (H : Hid (inB len 2 12 = true ∧ inB gap 0 10000 = true ∧ len' ≤ 5 ∧ legSum f len' ≤ 10)) (k : Nat) (hF : Hid (firstBad (fun i => inB (g i) 1 10) len = some k)) :
    Calls Tryz.prog 106 #[.agg #[.slice a len cap, .int .i64 gap, .slice a' len' cap']] w fun e w' => e = .returned (.iface 162 (.agg #[.int .i64 2, .int .i64 k])) ∧ Below w.heap.size w w' := by
  go_enter Tryz.func106, Tryz.ntmps106
  go_wp2_with (first | (go_at_call 147; refine (sizeError_ok _ _ _ _ _ _ _ f _ hml (hT.grow (b1 _ _)) H.out.1 H.out.2.1 H.out.2.2.1 H.out.2.2.2 hlen).mono ?_; rintro e w2 ⟨rfl, hB2⟩; obtain ⟨hc, hf⟩ := bcell hB2; have hBx := Below.join (b1 w _) (Nat.le_refl _) hB2) | (go_at_call 148; refine (tracksError_bad _ _ _ g _ hlen (hI.grow hBx) k hF.out).mono ?_; rintro e w3 ⟨rfl, rfl⟩))
  go_ret
  exact ⟨rfl, hBx⟩

set_option maxHeartbeats 2000000 in
theorem lineError_three (a : Option Addr) (len cap : Nat) (g : Nat → Int) (gap : Int) (a' : Option Addr) (len' cap' : Nat) (f : Nat → TrainD) (w : World) (hlen : len ≤ 12) (hml : ∀ j, j < len' → (f j).nl ≤ 1048576)
    (hI : IsInts 0 w.heap.size w a len g) (hT : IsTrains 0 w.heap.size w a' len' f) (H : Hid (inB len 2 12 = true ∧ inB gap 0 10000 = true ∧ len' ≤ 5 ∧ legSum f len' ≤ 10)) (hF : Hid (firstBad (fun i => inB (g i) 1 10) len = none)) (v : Value) (hv : Hid (errV 3 (firstBad (fun i => trainB len (f i)) len') = v)) :
    Calls Tryz.prog 106 #[.agg #[.slice a len cap, .int .i64 gap, .slice a' len' cap']] w fun e w' => e = .returned v ∧ Below w.heap.size w w' := by
  go_enter Tryz.func106, Tryz.ntmps106
  go_wp2_with (first | (go_at_call 147; refine (sizeError_ok _ _ _ _ _ _ _ f _ hml (hT.grow (b1 _ _)) H.out.1 H.out.2.1 H.out.2.2.1 H.out.2.2.2 hlen).mono ?_; rintro e w2 ⟨rfl, hB2⟩; obtain ⟨hc, hf⟩ := bcell hB2; have hBx := Below.join (b1 w _) (Nat.le_refl _) hB2) | (go_at_call 148; refine (tracksError_ok _ _ _ g _ hlen (hI.grow hBx) hF.out).mono ?_; rintro e w3 ⟨rfl, rfl⟩) | (go_at_call 149; refine (trainsError_hid _ _ _ _ _ _ _ f _ hlen H.out.2.2.1 hml (hT.grow hBx) v hv.out).mono ?_; rintro e w4 ⟨rfl, hB4⟩))
  go_ret
  exact ⟨rfl, Below.join hBx (Nat.le_refl _) hB4⟩

theorem lineError_any (a : Option Addr) (len cap : Nat) (g : Nat → Int) (gap : Int) (a' : Option Addr) (len' cap' : Nat) (f : Nat → TrainD) (w : World) (hl : len ≤ 1048576) (hl' : len' ≤ 1048576) (hml : ∀ j, j < len' → (f j).nl ≤ 1048576)
    (hI : IsInts 0 w.heap.size w a len g) (hT : IsTrains 0 w.heap.size w a' len' f) :
    Calls Tryz.prog 106 #[.agg #[.slice a len cap, .int .i64 gap, .slice a' len' cap']] w fun e w' => e = .returned (errP (faultOf len g gap len' f)) ∧ Below w.heap.size w w' := by
  by_cases hok : inB len 2 12 = true ∧ inB gap 0 10000 = true ∧ len' ≤ 5 ∧ legSum f len' ≤ 10
  · have hlen : len ≤ 12 := by have := (of_decide_eq_true hok.1).2; omega
    cases hF : firstBad (fun i => inB (g i) 1 10) len with
    | some k =>
      have hE : errP (faultOf len g gap len' f) = .iface 162 (.agg #[.int .i64 2, .int .i64 k]) := by unfold faultOf; rw [if_pos hok, hF]; rfl
      rw [hE]
      exact lineError_two a len cap g gap a' len' cap' f w hlen hml hI hT hok k hF
    | none =>
      refine lineError_three a len cap g gap a' len' cap' f w hlen hml hI hT hok hF _ ?_
      show _ = _
      unfold faultOf
      rw [if_pos hok, hF]
      cases firstBad (fun i => trainB len (f i)) len' <;> rfl
  · rw [faultOf_one hok]
    exact lineError_one a len cap gap a' len' cap' f w hl hl' hml hT hok
end Go.Proofs.YtelickcfodcmaaaGreatDoor
