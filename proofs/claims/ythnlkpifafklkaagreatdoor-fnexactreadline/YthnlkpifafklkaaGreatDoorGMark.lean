/-
  The laws' marks: they write into what they are handed and nowhere else; what is marked is held.
  A line of a call's own: it is written over, and read again.
  A line of a call's own: its trains are written over, and read again.
  A line of a call's own: it is written over.
-/
import Derived.Test.YthnlkpifafklkaaGreatDoorToM
import Derived.Test.YthnlkpifafklkaaGreatDoorGReadT
import Derived.Test.YthnlkpifafklkaaGreatDoorEq
namespace Go.Proofs.YthnlkpifafklkaaGreatDoor
open Go.RowKit

set_option maxHeartbeats 1000000 in
theorem markIntS_any (a : Option Addr) (len cap : Nat) (q : Int) (w : World) (lo hi : Nat) (hl : len ≤ 1048576) (h0 : 0 ≤ q) (h1 : q ≤ 281474976710656) (hS : Soft lo hi w a len) :
    Calls Tryz.prog 15 #[.slice a len cap, .int .i64 q] w fun e w' => e = .returned (.int .i64 (q + len)) ∧ IsInts lo hi w' a len (fun j => q + j) ∧ Mid lo hi w w' := by
  go_enter Tryz.func15, Tryz.ntmps15
  go_wp2
  go_loopw [1, 5] (fun kv i wr => ∃ (k : Nat), k ≤ len ∧ i = .int .i64 k ∧ kv = .int .i64 (q + k) ∧ IsInts lo hi wr a k (fun j => q + j) ∧ Mid lo hi w wr) (fun _ i _ => len - (intOf i).toNat)
  case atStart => exact ⟨0, Nat.zero_le _, rfl, by simp, fun _ h => by omega, Mid.refl _ _ _⟩
  case round =>
    obtain ⟨k, hk, rfl, rfl, hall, hM⟩ := hrel
    by_cases hlt : k < len
    · obtain ⟨b, off, v, rfl, hb0, hb1, c0, z0⟩ := (hS.mid hM) k hlt
      have hlt' : (k : Int) < (len : Int) := by omega
      go_wp2
      go_roundw
      case rel =>
        refine ⟨k + 1, by omega, by go_num, by go_num, fun j hj => ?_, hM.trans (Mid.set hb0 hb1 _)⟩
        refine ⟨b, off, rfl, hb0, hb1, ?_⟩
        by_cases e : j = k
        · subst e; exact World.cell?_setCell_same _ _ _ c0
        · obtain ⟨b', off', e', _, _, hc⟩ := hall j (by omega)
          cases e'
          exact (cell_set_ne (by omega)).trans hc
      case measure => simp [intOf]; omega
    · obtain rfl : k = len := by omega
      go_wp2
      go_ret
      exact ⟨rfl, hall, hM⟩

set_option maxHeartbeats 1000000 in
theorem heldIntS_any (a : Option Addr) (len cap : Nat) (q : Int) (w : World) (lo hi : Nat) (hl : len ≤ 1048576) (h0 : 0 ≤ q) (h1 : q ≤ 281474976710656) (hI : IsInts lo hi w a len (fun j => q + j)) :
    Calls Tryz.prog 80 #[.slice a len cap, .int .i64 q] w fun e w' => e = .returned (.int .i64 (q + len)) ∧ Below w.heap.size w w' := by
  go_enter Tryz.func80, Tryz.ntmps80
  go_wp2
  go_loopw [1, 5] (fun kv i wr => ∃ (k : Nat), k ≤ len ∧ i = .int .i64 k ∧ kv = .int .i64 (q + k) ∧ Below w.heap.size w wr) (fun _ i _ => len - (intOf i).toNat)
  case atStart => exact ⟨0, Nat.zero_le _, rfl, by simp, Below.refl _ _⟩
  case round =>
    obtain ⟨k, hk, rfl, rfl, hB⟩ := hrel
    by_cases hlt : k < len
    · obtain ⟨b, off, rfl, hb0, hb1, c0⟩ := hI k hlt
      replace c0 := cellLater hB c0
      have hlt' : (k : Int) < (len : Int) := by omega
      go_wp2
      go_roundw
      case rel => exact ⟨k + 1, by omega, by go_num, by go_num, hB⟩
      case measure => simp [intOf]; omega
    · obtain rfl : k = len := by omega
      go_wp2
      go_ret
      exact ⟨rfl, hB⟩

set_option maxHeartbeats 1000000 in
theorem markLegS_any (a : Option Addr) (len cap : Nat) (q : Int) (w : World) (lo hi : Nat) (hl : len ≤ 1048576) (h0 : 0 ≤ q) (h1 : q ≤ 281474976710656) (hS : Soft lo hi w a (len * 3)) :
    Calls Tryz.prog 70 #[.slice a len cap, .int .i64 q] w fun e w' => e = .returned (.int .i64 (q + len * 3)) ∧ Mid lo hi w w' := by
  go_enter Tryz.func70, Tryz.ntmps70
  go_wp2
  go_loopw [1, 5] (fun kv i wr => ∃ (k : Nat), k ≤ len ∧ i = .int .i64 k ∧ kv = .int .i64 (q + k * 3) ∧ Mid lo hi w wr) (fun _ i _ => len - (intOf i).toNat)
  case atStart => exact ⟨0, Nat.zero_le _, rfl, by simp, Mid.refl _ _ _⟩
  case round =>
    obtain ⟨k, hk, rfl, rfl, hM⟩ := hrel
    by_cases hlt : k < len
    · have hS' := hS.mid hM
      obtain ⟨b, off, v, rfl, hb0, hb1, c0, z0⟩ := hS' (k * 3) (by omega)
      obtain ⟨b', off', v1, e1, _, _, c1, z1⟩ := hS' (k * 3 + 1) (by omega)
      cases e1
      obtain ⟨b', off', v2, e2, _, _, c2, z2⟩ := hS' (k * 3 + 2) (by omega)
      cases e2
      rw [← Nat.add_assoc] at c1 z1 c2 z2
      have hlt' : (k : Int) < (len : Int) := by omega
      go_wp2
      go_roundw
      case rel => exact ⟨k + 1, by omega, by go_num, by go_num, ((hM.trans (Mid.set hb0 hb1 _)).trans (Mid.set hb0 hb1 _)).trans (Mid.set hb0 hb1 _)⟩
      case measure => simp [intOf]; omega
    · obtain rfl : k = len := by omega
      go_wp2
      go_ret
      exact ⟨rfl, hM⟩

set_option maxHeartbeats 2000000 in
theorem markTrainS_any (a : Option Addr) (len cap : Nat) (nl : Nat → Nat) (q : Int) (w : World) (lo hi : Nat) (hl : len ≤ 1048576) (hml : ∀ j, j < len → nl j ≤ 1048576) (h0 : 0 ≤ q) (h1 : q ≤ 1099511627776) (hS : SoftT lo hi w a len nl) :
    Calls Tryz.prog 41 #[.slice a len cap, .int .i64 q] w fun e w' => (∃ r : Int, e = .returned (.int .i64 r) ∧ q ≤ r ∧ r ≤ q + len * 4194304) ∧ Mid lo hi w w' := by
  go_enter Tryz.func41, Tryz.ntmps41
  go_wp2
  go_loopw [1, 5] (fun kv i wr => ∃ (k : Nat) (r : Int), k ≤ len ∧ i = .int .i64 k ∧ kv = .int .i64 r ∧ q ≤ r ∧ r ≤ q + k * 4194304 ∧ SoftT lo hi wr a len nl ∧ Mid lo hi w wr) (fun _ i _ => len - (intOf i).toNat)
  case atStart => exact ⟨0, q, Nat.zero_le _, rfl, rfl, Int.le_refl _, by simp, hS, Mid.refl _ _ _⟩
  case round =>
    obtain ⟨k, r, hk, rfl, rfl, hr0, hr1, hSw, hM⟩ := hrel
    by_cases hlt : k < len
    · obtain ⟨b, off, la, lc, rfl, hb0, hb1, hc, c4, hlg⟩ := hSw k hlt
      obtain ⟨v0, c0, z0⟩ := hc 0 (by omega)
      obtain ⟨v1, c1, z1⟩ := hc 1 (by omega)
      obtain ⟨v2, c2, z2⟩ := hc 2 (by omega)
      obtain ⟨v3, c3, z3⟩ := hc 3 (by omega)
      clear hc
      rw [Nat.add_zero] at c0 z0
      have hlt' : (k : Int) < (len : Int) := by omega
      have hmk := hml k hlt
      have hk2 : (k : Int) ≤ 1048576 := by omega
      go_wp2_with (go_at_call 70; refine (markLegS_any _ _ _ _ _ (b + 1) hi hmk (by omega) (by omega) ((((hlg.set _ _).set _ _).set _ _).set _ _)).mono ?_; rintro e w2 ⟨rfl, hM2⟩)
      go_roundw
      case rel =>
        refine ⟨k + 1, _, by omega, by go_num, rfl, by omega, by omega, fun j hj => ?_, ((((hM.trans (Mid.set hb0 hb1 _)).trans (Mid.set hb0 hb1 _)).trans (Mid.set hb0 hb1 _)).trans (Mid.set hb0 hb1 _)).trans (hM2.mono (by omega) (Nat.le_refl _))⟩
        obtain ⟨b', off', la', lc', e', _, _, k2, k3, k4⟩ := hSw j hj
        cases e'
        refine ⟨b, off, la', lc', rfl, hb0, hb1, fun c hc => ?_, hM2.cellBelow (Nat.lt_succ_self _) ((cell_set_ne (by omega)).trans ((cell_set_ne (by omega)).trans ((cell_set_ne (by omega)).trans ((cell_set_ne (by omega)).trans k3)))), (((((k4.set _ _).set _ _).set _ _).set _ _).mid hM2)⟩
        obtain ⟨v, hv, hf⟩ := k2 c hc
        exact (((((Mid.set (lo := 0) (hi := b + 1) (Nat.zero_le _) (Nat.lt_succ_self _) _).trans (Mid.set (Nat.zero_le _) (Nat.lt_succ_self _) _)).trans (Mid.set (Nat.zero_le _) (Nat.lt_succ_self _) _)).trans (Mid.set (Nat.zero_le _) (Nat.lt_succ_self _) _)).mono (lo' := 0) (hi' := hi) (Nat.zero_le _) (by omega) |>.trans (hM2.mono (Nat.zero_le _) (Nat.le_refl _))).keeps _ _ _ hv hf
      case measure => simp [intOf]; omega
    · obtain rfl : k = len := by omega
      go_wp2
      go_ret
      exact ⟨⟨_, rfl, hr0, hr1⟩, hM⟩

set_option maxHeartbeats 1000000 in
theorem markLine_any (a : Option Addr) (len cap : Nat) (gap : Int) (a' : Option Addr) (len' cap' : Nat) (nl : Nat → Nat) (w : World) (lo mid hi : Nat) (hl : len ≤ 1048576) (hl' : len' ≤ 1048576) (hml : ∀ j, j < len' → nl j ≤ 1048576) (h0 : lo ≤ mid) (h1 : mid ≤ hi) (h2 : hi ≤ w.heap.size) (hS : Soft lo mid w a len) (hT : SoftT mid hi w a' len' nl) :
    Calls Tryz.prog 14 #[.agg #[.slice a len cap, .int .i64 gap, .slice a' len' cap'], .int .i64 1] w fun e w' => (∃ r : Int, e = .returned (.int .i64 r) ∧ 1 ≤ r ∧ r ≤ 4398048608257) ∧ Mid lo hi w w' := by
  go_enter Tryz.func14, Tryz.ntmps14
  have hb := b1 w (.cells #[.slice a len cap, .int .i64 gap, .slice a' len' cap'] 35)
  obtain ⟨n0, n1, n2⟩ := new3 w (.slice a len cap) (.int .i64 gap) (.slice a' len' cap') 35
  go_wp2_with (first | (go_at_call 15; refine (markIntS_any _ _ _ _ _ lo mid hl (by omega) (by omega) (hS.later hb)).mono ?_; rintro e w2 ⟨rfl, _, hM2⟩; replace n2 := hM2.cellAbove (by omega) n2) | (go_at_call 41; refine (markTrainS_any _ _ _ nl _ _ mid hi hl' hml (by omega) (by omega) ((hT.later hb).mid hM2 (Nat.le_refl _))).mono ?_; rintro e w3 ⟨⟨r, rfl, hr0, hr1⟩, hM3⟩))
  go_ret
  exact ⟨⟨_, rfl, by omega, by omega⟩, ((Mid.ofBelow (lo := lo) (hi := hi) hb (by omega)).trans (hM2.mono (Nat.le_refl _) h1)).trans (hM3.mono h0 (Nat.le_refl _))⟩

set_option maxHeartbeats 2000000 in
theorem markIntSS_any (a : Option Addr) (len cap : Nat) (n : Nat → Nat) (q : Int) (w : World) (lo hi : Nat) (hl : len ≤ 1048576) (hml : ∀ j, j < len → n j ≤ 1048576) (h0 : 0 ≤ q) (h1 : q ≤ 17592186044416) (hS : SoftR lo hi w a len n) :
    Calls Tryz.prog 71 #[.slice a len cap, .int .i64 q] w fun e w' => (∃ r : Int, e = .returned (.int .i64 r) ∧ q ≤ r ∧ r ≤ q + len * 1048576) ∧ Mid lo hi w w' := by
  go_enter Tryz.func71, Tryz.ntmps71
  go_wp2
  go_loopw [1, 5] (fun kv i wr => ∃ (k : Nat) (r : Int), k ≤ len ∧ i = .int .i64 k ∧ kv = .int .i64 r ∧ q ≤ r ∧ r ≤ q + k * 1048576 ∧ SoftR lo hi wr a len n ∧ Mid lo hi w wr) (fun _ i _ => len - (intOf i).toNat)
  case atStart => exact ⟨0, q, Nat.zero_le _, rfl, rfl, Int.le_refl _, by simp, hS, Mid.refl _ _ _⟩
  case round =>
    obtain ⟨k, r, hk, rfl, rfl, hr0, hr1, hSw, hM⟩ := hrel
    by_cases hlt : k < len
    · obtain ⟨b, off, la, lc, rfl, hb0, hb1, c4, hlg⟩ := hSw k hlt
      have hlt' : (k : Int) < (len : Int) := by omega
      have hmk := hml k hlt
      have hk2 : (k : Int) ≤ 1048576 := by omega
      go_wp2_with (go_at_call 15; refine (markIntS_any _ _ _ _ _ (b + 1) hi hmk (by omega) (by omega) hlg).mono ?_; rintro e w2 ⟨rfl, _, hM2⟩)
      go_roundw
      case rel =>
        refine ⟨k + 1, _, by omega, by go_num, rfl, by omega, by omega, fun j hj => ?_, hM.trans (hM2.mono (by omega) (Nat.le_refl _))⟩
        obtain ⟨b', off', la', lc', e', _, _, k3, k4⟩ := hSw j hj
        cases e'
        exact ⟨b, off, la', lc', rfl, hb0, hb1, hM2.cellBelow (Nat.lt_succ_self _) k3, k4.mid hM2⟩
      case measure => simp [intOf]; omega
    · obtain rfl : k = len := by omega
      go_wp2
      go_ret
      exact ⟨⟨_, rfl, hr0, hr1⟩, hM⟩

set_option maxHeartbeats 1000000 in
theorem markPlan_any (a : Option Addr) (len cap : Nat) (n : Nat → Nat) (q : Int) (w : World) (lo hi : Nat) (hl : len ≤ 1048576) (hml : ∀ j, j < len → n j ≤ 1048576) (h0 : 0 ≤ q) (h1 : q ≤ 17592186044416) (h2 : hi ≤ w.heap.size) (h3 : lo ≤ hi) (hS : SoftR lo hi w a len n) :
    Calls Tryz.prog 42 #[.agg #[.slice a len cap], .int .i64 q] w fun e w' => (∃ r : Int, e = .returned (.int .i64 r) ∧ q ≤ r ∧ r ≤ q + len * 1048576) ∧ Mid lo hi w w' := by
  go_enter Tryz.func42, Tryz.ntmps42
  have hb := b1 w (.cells #[.slice a len cap] 29)
  go_wp2_with (first | (go_at_call 71; refine (markIntSS_any _ _ _ n _ _ lo hi hl hml h0 h1 (hS.later hb)).mono ?_; rintro e w2 ⟨⟨r, rfl, hr0, hr1⟩, hM2⟩))
  go_ret
  exact ⟨⟨_, rfl, hr0, hr1⟩, (Mid.ofBelow (lo := lo) (hi := hi) hb (by omega)).trans hM2⟩
end Go.Proofs.YthnlkpifafklkaaGreatDoor

namespace Go.Proofs.YthnlkpifafklkaaGreatDoor
open Go.RowKit

set_option maxHeartbeats 2000000 in
theorem markLegSV_any (a : Option Addr) (len cap : Nat) (q : Int) (w : World) (lo hi : Nat) (hl : len ≤ 1048576) (h0 : 0 ≤ q) (h1 : q ≤ 281474976710656) (hS : Soft lo hi w a (len * 3)) :
    Calls Tryz.prog 70 #[.slice a len cap, .int .i64 q] w fun e w' => e = .returned (.int .i64 (q + len * 3)) ∧ IsLegs lo hi w' a len (fun m => ⟨q + m * 3, q + m * 3 + 1, q + m * 3 + 1 + 1⟩) ∧ Mid lo hi w w' := by
  go_enter Tryz.func70, Tryz.ntmps70
  go_wp2
  go_loopw [1, 5] (fun kv i wr => ∃ (k : Nat), k ≤ len ∧ i = .int .i64 k ∧ kv = .int .i64 (q + k * 3) ∧ IsLegs lo hi wr a k (fun m => ⟨q + m * 3, q + m * 3 + 1, q + m * 3 + 1 + 1⟩) ∧ Mid lo hi w wr) (fun _ i _ => len - (intOf i).toNat)
  case atStart => exact ⟨0, Nat.zero_le _, rfl, by simp, fun _ h => by omega, Mid.refl _ _ _⟩
  case round =>
    obtain ⟨k, hk, rfl, rfl, hall, hM⟩ := hrel
    by_cases hlt : k < len
    · have hS' := hS.mid hM
      obtain ⟨b, off, v, rfl, hb0, hb1, c0, z0⟩ := hS' (k * 3) (by omega)
      obtain ⟨b', off', v1, e1, _, _, c1, z1⟩ := hS' (k * 3 + 1) (by omega)
      cases e1
      obtain ⟨b', off', v2, e2, _, _, c2, z2⟩ := hS' (k * 3 + 2) (by omega)
      cases e2
      rw [← Nat.add_assoc] at c1 z1 c2 z2
      have hlt' : (k : Int) < (len : Int) := by omega
      have hall' : Hid _ := hall
      clear hall
      go_wp2
      go_roundw
      case rel =>
        refine ⟨k + 1, by omega, by go_num, by go_num, fun j hj => ?_, ((hM.trans (Mid.set hb0 hb1 _)).trans (Mid.set hb0 hb1 _)).trans (Mid.set hb0 hb1 _)⟩
        refine ⟨b, off, rfl, hb0, hb1, ?_⟩
        by_cases e : j = k
        · subst e
          refine ⟨?_, ?_, ?_⟩
          · exact (cell_set_ne (by omega)).trans ((cell_set_ne (by omega)).trans (World.cell?_setCell_same _ _ _ c0))
          · exact (cell_set_ne (by omega)).trans (World.cell?_setCell_same _ _ _ ((cell_set_ne (by omega)).trans c1))
          · exact World.cell?_setCell_same _ _ _ ((cell_set_ne (by omega)).trans ((cell_set_ne (by omega)).trans c2))
        · obtain ⟨b', off', e', _, _, y0, y1, y2⟩ := hall'.out j (by omega)
          cases e'
          exact ⟨(cell_set_ne (by omega)).trans ((cell_set_ne (by omega)).trans ((cell_set_ne (by omega)).trans y0)), (cell_set_ne (by omega)).trans ((cell_set_ne (by omega)).trans ((cell_set_ne (by omega)).trans y1)), (cell_set_ne (by omega)).trans ((cell_set_ne (by omega)).trans ((cell_set_ne (by omega)).trans y2))⟩
      case measure => simp [intOf]; omega
    · obtain rfl : k = len := by omega
      go_wp2
      go_ret
      exact ⟨rfl, hall, hM⟩

set_option maxHeartbeats 2000000 in
theorem heldLegS_any (a : Option Addr) (len cap : Nat) (q : Int) (w : World) (hl : len ≤ 1048576) (h0 : 0 ≤ q) (h1 : q ≤ 281474976710656) (hI : IsLegs 0 w.heap.size w a len (fun m => ⟨q + m * 3, q + m * 3 + 1, q + m * 3 + 1 + 1⟩)) :
    Calls Tryz.prog 113 #[.slice a len cap, .int .i64 q] w fun e w' => e = .returned (.int .i64 (q + len * 3)) ∧ Below w.heap.size w w' := by
  go_enter Tryz.func113, Tryz.ntmps113
  go_wp2
  go_loopw [1, 5] (fun kv i wr => ∃ (k : Nat), k ≤ len ∧ i = .int .i64 k ∧ kv = .int .i64 (q + k * 3) ∧ Below w.heap.size w wr) (fun _ i _ => len - (intOf i).toNat)
  case atStart => exact ⟨0, Nat.zero_le _, rfl, by simp, Below.refl _ _⟩
  case round =>
    obtain ⟨k, hk, rfl, rfl, hB⟩ := hrel
    by_cases hlt : k < len
    · obtain ⟨b, off, rfl, _, _, c0, c1, c2⟩ := hI k hlt
      replace c0 := cellLater hB c0
      replace c1 := cellLater hB c1
      replace c2 := cellLater hB c2
      have hlt' : (k : Int) < (len : Int) := by omega
      go_wp2
      go_roundw
      case rel => exact ⟨k + 1, by omega, by go_num, by go_num, hB⟩
      case measure => simp [intOf]; omega
    · obtain rfl : k = len := by omega
      go_wp2
      go_ret
      exact ⟨rfl, hB⟩
end Go.Proofs.YthnlkpifafklkaaGreatDoor

namespace Go.Proofs.YthnlkpifafklkaaGreatDoor
open Go.RowKit

/-- how far the numbers have gone -/
def qT (nl : Nat → Nat) : Nat → Nat
  | 0 => 0
  | j + 1 => qT nl j + 4 + nl j * 3
def markT (q : Int) (nl : Nat → Nat) (j : Nat) : TrainD := ⟨q + qT nl j, q + qT nl j + 1, q + qT nl j + 1 + 1, q + qT nl j + 1 + 1 + 1, nl j, fun m => ⟨q + qT nl j + 1 + 1 + 1 + 1 + m * 3, q + qT nl j + 1 + 1 + 1 + 1 + m * 3 + 1, q + qT nl j + 1 + 1 + 1 + 1 + m * 3 + 1 + 1⟩⟩
theorem qT_le {nl : Nat → Nat} {len : Nat} (h : ∀ j, j < len → nl j ≤ 5000) : ∀ k, k ≤ len → qT nl k ≤ 15004 * k
  | 0, _ => Nat.le_refl _
  | k + 1, hk => by
    have h1 := qT_le h k (by omega)
    have h2 := h k (by omega)
    simp only [qT]; omega

set_option maxRecDepth 20000 in
set_option maxHeartbeats 4000000 in
theorem heldTrainS_any (a : Option Addr) (len cap : Nat) (nl : Nat → Nat) (q : Int) (w : World) (hl : len ≤ 5000) (hn : ∀ j, j < len → nl j ≤ 5000) (h0 : 0 ≤ q) (h1 : q ≤ 1000) (hI : IsTrains 0 w.heap.size w a len (markT q nl)) :
    Calls Tryz.prog 81 #[.slice a len cap, .int .i64 q] w fun e w' => e = .returned (.int .i64 (q + qT nl len)) ∧ Below w.heap.size w w' := by
  go_enter Tryz.func81, Tryz.ntmps81
  go_wp2
  go_loopw [1, 5] (fun kv ii wr => ∃ (k : Nat), k ≤ len ∧ ii = .int .i64 k ∧ kv = .int .i64 (q + qT nl k) ∧ Below w.heap.size w wr) (fun _ ii _ => len - (intOf ii).toNat)
  case atStart => exact ⟨0, Nat.zero_le _, rfl, by simp [qT], Below.refl _ _⟩
  case round =>
    obtain ⟨k, hk, rfl, rfl, hB⟩ := hrel
    have hsum := qT_le hn k hk
    by_cases hlt : k < len
    · have hk' : (k : Int) < (len : Int) := by omega
      have hk0 : (0 : Int) ≤ (k : Int) := by omega
      have hnk := hn k hlt
      have hsn : Hid (((qT nl (k + 1) : Nat) : Int) = (qT nl k : Int) + 4 + nl k * 3) := by unfold Hid; simp [qT]
      obtain ⟨b, off, la, lc, rfl, _, hb, c0, c1, c2, c3, c4, hlg, _⟩ := hI k hlt
      replace c0 := cellLater hB c0
      replace c1 := cellLater hB c1
      replace c2 := cellLater hB c2
      replace c3 := cellLater hB c3
      replace c4 := cellLater hB c4
      have hlg1 := hlg.grow hB
      simp only [markT] at c0 c1 c2 c3 c4 hlg1
      generalize hqk : (q + qT nl k : Int) = qk at *
      have hq0 : 0 ≤ qk := by omega
      have hq1 : qk ≤ 100000000 := by omega
      have hcall := heldLegS_any la (nl k) lc (qk + 1 + 1 + 1 + 1) wr (by omega) (by omega) (by omega) hlg1
      have hnn : ¬ (qk + 1 + 1 + 1 + 1 + (nl k : Int) * 3 < 0) := by omega
      have hqk' : Hid _ := hqk
      clear hqk hlg hlg1 hI
      go_wp2_with (go_at_call 113; refine hcall.mono ?_; rintro _ w2 ⟨rfl, hB2⟩)
      go_roundw
      case rel => exact ⟨k + 1, by omega, by go_num, by rw [hsn.out, ← hqk'.out]; congr 1; omega, Below.join hB (Nat.le_refl _) hB2⟩
      case measure => simp [intOf]; omega
    · obtain rfl : k = len := by omega
      go_wp2
      go_ret
      exact ⟨rfl, hB⟩
end Go.Proofs.YthnlkpifafklkaaGreatDoor

namespace Go.Proofs.YthnlkpifafklkaaGreatDoor
open Go.RowKit

/-- the rows' blocks lie below hi -/
def Low (hi : Nat) (v : Value) : Prop := ∀ k, v.ownBlock = some k → k < hi
def nlOf (L : List TrV) (j : Nat) : Nat := (fT (L.map Prod.fst) j).nl
theorem nlOf_at {L : List TrV} {j : Nat} {x : TrV} (h : L[j]? = some x) : nlOf L j = x.1.legs.length := by
  unfold nlOf fT
  rw [List.getD_eq_getElem?_getD, List.getElem?_map, h]
  rfl

set_option maxRecDepth 20000 in
set_option maxHeartbeats 8000000 in
theorem markTrainSO_any (hi0 B0 : Nat) (aT : Option Addr) (cT : Nat) (L : List TrV) (q : Int) (w : World) (hl : L.length ≤ 5000) (hn : ∀ x ∈ L, x.1.legs.length ≤ 5000) (h0 : 0 ≤ q) (h1 : q ≤ 1000) (hh : B0 ≤ hi0) (hO : OwnT B0 w (.slice aT L.length cT) L) (hlow : Low hi0 (.slice aT L.length cT)) (hlows : ∀ x ∈ L, Low hi0 x.2) :
    Calls Tryz.prog 41 #[.slice aT L.length cT, .int .i64 q] w fun e w' => e = .returned (.int .i64 (q + qT (nlOf L) L.length)) ∧ IsTrains 0 w'.heap.size w' aT L.length (markT q (nlOf L)) ∧ Mid B0 hi0 w w' ∧ (∀ g o u, (Value.slice aT L.length cT).ownBlock ≠ some g → (∀ x ∈ L, x.2.ownBlock ≠ some g) → w.cell? ⟨g, o, none⟩ = some u → w'.cell? ⟨g, o, none⟩ = some u) := by
  have hnl : ∀ j, j < L.length → nlOf L j ≤ 5000 := fun j hj => by rw [nlOf_at (List.getElem?_eq_getElem hj)]; exact hn _ (List.getElem_mem hj)
  have haT : 0 < L.length → ∃ gT, aT = some ⟨gT, 0, none⟩ := fun hp => by
    obtain ⟨g, c, e⟩ := Joins.ownsRow_form hO.row hp
    cases e
    exact ⟨g, rfl⟩
  by_cases hp : 0 < L.length
  · obtain ⟨gT, rfl⟩ := haT hp
    have hgB := hO.lt (k := gT) (Or.inl rfl)
    have hgT : gT < hi0 := hlow gT rfl
    have hcellT : ∀ o, o < L.length * 5 → ∃ u, w.cell? ⟨gT, o, none⟩ = some u ∧ w.frozen? ⟨gT, o, none⟩ = false := fun o ho =>
      ⟨_, by rw [World.ownsRow.cellAt hO.row o ho]; exact List.getElem?_eq_getElem (by rw [trCells_len]; exact ho), World.ownsRow.frozenAt hO.row o⟩
    have hhdr : ∀ j x, L[j]? = some x → w.cell? ⟨gT, j * 5 + 4, none⟩ = some x.2 := fun j x hx => by
      have hj := (List.getElem?_eq_some_iff.1 hx).1
      rw [World.ownsRow.cellAt hO.row _ (by omega)]
      exact (trCells_at L j x hx).2.2.2.2
    have hleg : ∀ x ∈ L, ∃ la lc, x.2 = .slice la x.1.legs.length lc ∧ (x.1.legs.length = 0 ∨ ∃ g, la = some ⟨g, 0, none⟩ ∧ x.2.ownBlock = some g ∧ B0 ≤ g ∧ g < hi0 ∧ g ≠ gT ∧ ∀ m, m < x.1.legs.length * 3 → ∃ u, w.cell? ⟨g, m, none⟩ = some u ∧ w.frozen? ⟨g, m, none⟩ = false) := fun x hx => by
      have ho := hO.legs x hx
      rcases ho.2 with ⟨e, e0⟩ | ⟨g, cap, cur, e, hb, hg, _⟩
      · exact ⟨none, 0, by rw [e, e0], Or.inl e0⟩
      · have hob : x.2.ownBlock = some g := by rw [e]; rfl
        refine ⟨_, cap, e, Or.inr ⟨g, rfl, hob, hb, hlows x hx g hob, fun e2 => hO.off x hx g hob (by rw [e2]; rfl), fun m hm => ?_⟩⟩
        unfold OwnLegs at ho
        rw [e] at ho
        have hlen := ho.1
        exact ⟨_, by rw [World.ownsRow.cellAt ho m hm]; exact List.getElem?_eq_getElem (by omega), World.ownsRow.frozenAt ho m⟩
    have hap : ∀ (j k : Nat) (x y : TrV), j ≠ k → L[j]? = some x → L[k]? = some y → ∀ g, x.2.ownBlock = some g → y.2.ownBlock ≠ some g := fun j k x y hjk hx hy g hg => by
      obtain ⟨hj, rfl⟩ := List.getElem?_eq_some_iff.1 hx
      obtain ⟨hk, rfl⟩ := List.getElem?_eq_some_iff.1 hy
      rcases Nat.lt_or_gt_of_ne hjk with h | h
      · exact List.pairwise_iff_getElem.1 hO.apart j k hj hk h g hg
      · exact (Off.symm (List.pairwise_iff_getElem.1 hO.apart k j hk hj h)) g hg
    go_enter Tryz.func41, Tryz.ntmps41
    go_wp2
    go_loopw [1, 5] (fun kv ii wr => ∃ (k : Nat), k ≤ L.length ∧ ii = .int .i64 k ∧ kv = .int .i64 (q + qT (nlOf L) k) ∧ (∀ j x, L[j]? = some x → wr.cell? ⟨gT, j * 5 + 4, none⟩ = some x.2) ∧
      (∀ j, j < k → wr.cell? ⟨gT, j * 5, none⟩ = some (.int .i64 (q + qT (nlOf L) j)) ∧ wr.cell? ⟨gT, j * 5 + 1, none⟩ = some (.int .i64 (q + qT (nlOf L) j + 1)) ∧ wr.cell? ⟨gT, j * 5 + 2, none⟩ = some (.int .i64 (q + qT (nlOf L) j + 1 + 1)) ∧ wr.cell? ⟨gT, j * 5 + 3, none⟩ = some (.int .i64 (q + qT (nlOf L) j + 1 + 1 + 1))) ∧
      (∀ j x, j < k → L[j]? = some x → ∀ la lc, x.2 = .slice la x.1.legs.length lc → IsLegs 0 wr.heap.size wr la x.1.legs.length (fun m => ⟨q + qT (nlOf L) j + 1 + 1 + 1 + 1 + m * 3, q + qT (nlOf L) j + 1 + 1 + 1 + 1 + m * 3 + 1, q + qT (nlOf L) j + 1 + 1 + 1 + 1 + m * 3 + 1 + 1⟩)) ∧ Mid B0 hi0 w wr ∧ (∀ (g o : Nat) (u : Value), g ≠ gT → (∀ x ∈ L, x.2.ownBlock ≠ some g) → w.cell? ⟨g, o, none⟩ = some u → wr.cell? ⟨g, o, none⟩ = some u)) (fun _ ii _ => L.length - (intOf ii).toNat)
    case atStart => exact ⟨0, Nat.zero_le _, rfl, by simp [qT], hhdr, fun j hj => absurd hj (Nat.not_lt_zero j), fun j x hj => absurd hj (Nat.not_lt_zero j), Mid.refl _ _ _, fun g o u _ _ h => h⟩
    case round =>
      obtain ⟨k, hk, rfl, rfl, hdr, hdn, hdl, hM, hoth⟩ := hrel
      have hsum := qT_le hnl k hk
      by_cases hlt : k < L.length
      · have hk' : (k : Int) < (L.length : Int) := by omega
        have hk0 : (0 : Int) ≤ (k : Int) := by omega
        obtain ⟨x, hx⟩ : ∃ x, L[k]? = some x := ⟨_, List.getElem?_eq_getElem hlt⟩
        have hxm : x ∈ L := List.mem_of_getElem? hx
        have hnk := hn x hxm
        have hnx := nlOf_at hx
        have hsn : Hid (((qT (nlOf L) (k + 1) : Nat) : Int) = (qT (nlOf L) k : Int) + 4 + x.1.legs.length * 3) := by unfold Hid; rw [← hnx]; simp [qT]
        obtain ⟨la, lc, hxe, hxl⟩ := hleg x hxm
        obtain ⟨u0, c0, z0⟩ := hM.keeps _ _ _ (hcellT (k * 5) (by omega)).choose_spec.1 (hcellT (k * 5) (by omega)).choose_spec.2
        obtain ⟨u1, c1, z1⟩ := hM.keeps _ _ _ (hcellT (k * 5 + 1) (by omega)).choose_spec.1 (hcellT (k * 5 + 1) (by omega)).choose_spec.2
        obtain ⟨u2, c2, z2⟩ := hM.keeps _ _ _ (hcellT (k * 5 + 2) (by omega)).choose_spec.1 (hcellT (k * 5 + 2) (by omega)).choose_spec.2
        obtain ⟨u3, c3, z3⟩ := hM.keeps _ _ _ (hcellT (k * 5 + 3) (by omega)).choose_spec.1 (hcellT (k * 5 + 3) (by omega)).choose_spec.2
        have c4 := hdr k x hx
        rw [hxe] at c4
        have hq0 : (0 : Int) ≤ q + qT (nlOf L) k := by omega
        have hq1 : q + (qT (nlOf L) k : Int) ≤ 100000000 := by omega
        have hpost : ∃ lo hi, B0 ≤ lo ∧ hi ≤ hi0 ∧ (∀ W, (∀ b o u, wr.cell? ⟨b, o, none⟩ = some u → wr.frozen? ⟨b, o, none⟩ = false → ∃ u', W.cell? ⟨b, o, none⟩ = some u' ∧ W.frozen? ⟨b, o, none⟩ = false) → Soft lo hi W la (x.1.legs.length * 3)) ∧ (∀ W W' o u, Mid lo hi W W' → W.cell? ⟨gT, o, none⟩ = some u → W'.cell? ⟨gT, o, none⟩ = some u) ∧
            (∀ W W' j y, j ≠ k → L[j]? = some y → ∀ g, y.2.ownBlock = some g → Mid lo hi W W' → ∀ o u, W.cell? ⟨g, o, none⟩ = some u → W'.cell? ⟨g, o, none⟩ = some u) ∧ (∀ W W' g, x.2.ownBlock ≠ some g → Mid lo hi W W' → ∀ o u, W.cell? ⟨g, o, none⟩ = some u → W'.cell? ⟨g, o, none⟩ = some u) := by
          rcases hxl with hz | ⟨g, hla, hgo, hbg, hgh, hgT9, hsf⟩
          · have hevery : ∀ W W', Mid B0 B0 W W' → ∀ b o u, W.cell? ⟨b, o, none⟩ = some u → W'.cell? ⟨b, o, none⟩ = some u := fun W W' hM9 b o u hu => by
              rcases Nat.lt_or_ge b B0 with h2 | h2
              · exact hM9.cellBelow h2 hu
              · exact hM9.cellAbove h2 hu
            exact ⟨B0, B0, Nat.le_refl _, hh, fun W _ i hi => by omega, fun W W' o u hM9 hu => hevery W W' hM9 gT o u hu, fun W W' j y _ _ g _ hM9 o u hu => hevery W W' hM9 g o u hu, fun W W' g _ hM9 o u hu => hevery W W' hM9 g o u hu⟩
          · have hother : ∀ W W', Mid g (g + 1) W W' → ∀ b o u, b ≠ g → W.cell? ⟨b, o, none⟩ = some u → W'.cell? ⟨b, o, none⟩ = some u := fun W W' hM9 b o u hne hu => by
              rcases Nat.lt_or_ge b g with h2 | h2
              · exact hM9.cellBelow h2 hu
              · exact hM9.cellAbove (by omega) hu
            refine ⟨g, g + 1, hbg, hgh, fun W hW i hi => ?_, fun W W' o u hM9 hu => hother W W' hM9 gT o u (fun e => hgT9 e.symm) hu, fun W W' j y hj hy g9 hg9 hM9 o u hu => hother W W' hM9 g9 o u (fun e => hap k j x y (fun e => hj e.symm) hx hy g hgo (by rw [hg9, e])) hu, fun W W' g9 hg9 hM9 o u hu => hother W W' hM9 g9 o u (fun e => hg9 (by rw [hgo, e])) hu⟩
            obtain ⟨v, hv, hz⟩ := hsf i hi
            obtain ⟨v1, hv1, hz1⟩ := hM.keeps _ _ v hv hz
            obtain ⟨v2, hv2, hz2⟩ := hW _ _ v1 hv1 hz1
            exact ⟨g, 0, v2, hla, Nat.le_refl _, Nat.lt_succ_self _, by rw [Nat.zero_add]; exact hv2, by rw [Nat.zero_add]; exact hz2⟩
        obtain ⟨lo, hi, hlo, hhi, hsoft, hkT, hkL, hkO⟩ := hpost
        have hset : ∀ (W : World) (p : Addr) (v : Value), ∀ b o u, W.cell? ⟨b, o, none⟩ = some u → W.frozen? ⟨b, o, none⟩ = false → ∃ u', (W.setCell p v).cell? ⟨b, o, none⟩ = some u' ∧ (W.setCell p v).frozen? ⟨b, o, none⟩ = false := fun W p v b o u hu hz => by
          obtain ⟨u', hu'⟩ := cell?_setCell_some (w := W) (p := p) (x := v) hu
          exact ⟨u', hu', by rw [World.frozen?_setCell]; exact hz⟩
        have hsoft' : Hid _ := hsoft
        have hkT' : Hid _ := hkT
        have hkL' : Hid _ := hkL
        have hkO' : Hid _ := hkO
        have hoth' : Hid _ := hoth
        have hset' : Hid _ := hset
        have hdr' : Hid _ := hdr
        have hdn' : Hid _ := hdn
        have hdl' : Hid _ := hdl
        have hhdr' : Hid _ := hhdr
        have hleg' : Hid _ := hleg
        have hap' : Hid _ := hap
        have hcT' : Hid _ := hcellT
        have hxe' : Hid _ := hxe
        clear hsoft hkT hkL hkO hoth hset hdr hdn hdl hhdr hleg hap hcellT hxl hlows hlow hnl hxe hnx
        generalize hqk : (q + qT (nlOf L) k : Int) = qk at *
        have hqk' : Hid _ := hqk
        clear hqk
        have hS4 : Soft lo hi ((((wr.setCell ⟨gT, k * 5, none⟩ (.int .i64 qk)).setCell ⟨gT, k * 5 + 1, none⟩ (.int .i64 (qk + 1))).setCell ⟨gT, k * 5 + 2, none⟩ (.int .i64 (qk + 1 + 1))).setCell ⟨gT, k * 5 + 3, none⟩ (.int .i64 (qk + 1 + 1 + 1))) la (x.1.legs.length * 3) := hsoft'.out _ (fun b o u hu hz => by
          obtain ⟨a1, b1, d1⟩ := hset'.out wr ⟨gT, k * 5, none⟩ (.int .i64 qk) b o u hu hz
          obtain ⟨a2, b2, d2⟩ := hset'.out _ ⟨gT, k * 5 + 1, none⟩ (.int .i64 (qk + 1)) b o a1 b1 d1
          obtain ⟨a3, b3, d3⟩ := hset'.out _ ⟨gT, k * 5 + 2, none⟩ (.int .i64 (qk + 1 + 1)) b o a2 b2 d2
          exact hset'.out _ ⟨gT, k * 5 + 3, none⟩ (.int .i64 (qk + 1 + 1 + 1)) b o a3 b3 d3)
        have hcall := markLegSV_any la x.1.legs.length lc (qk + 1 + 1 + 1 + 1) _ lo hi (by omega) (by omega) (by omega) hS4
        clear hS4
        go_wp2_with (go_at_call 70; refine hcall.mono ?_; rintro _ w2 ⟨rfl, hI2, hM2⟩)
        go_roundw
        case rel =>
          have hne4 : ∀ (o : Nat) (u : Value), o ≠ k * 5 → o ≠ k * 5 + 1 → o ≠ k * 5 + 2 → o ≠ k * 5 + 3 → wr.cell? ⟨gT, o, none⟩ = some u → w2.cell? ⟨gT, o, none⟩ = some u := fun o u e0 e1 e2 e3 hu =>
            hkT'.out _ w2 _ _ hM2 ((cell_set_ne (fun e => e3 e.symm)).trans ((cell_set_ne (fun e => e2 e.symm)).trans ((cell_set_ne (fun e => e1 e.symm)).trans ((cell_set_ne (fun e => e0 e.symm)).trans hu))))
          have hMM : Mid B0 hi0 w w2 := ((((hM.trans (Mid.set hgB.1 hgT _)).trans (Mid.set hgB.1 hgT _)).trans (Mid.set hgB.1 hgT _)).trans (Mid.set hgB.1 hgT _)).trans (hM2.mono hlo hhi)
          refine ⟨k + 1, by omega, by go_num, by rw [hsn.out, ← hqk'.out]; congr 1; omega, fun j y hy => hne4 _ _ (by omega) (by omega) (by omega) (by omega) (hdr'.out j y hy), fun j hj => ?_, fun j y hj hy la' lc' hye => ?_, hMM, fun g o u hgg hgl hu => ?_⟩
          · by_cases e : j = k
            · subst e
              rw [hqk'.out]
              refine ⟨hkT'.out _ w2 _ _ hM2 ?_, hkT'.out _ w2 _ _ hM2 ?_, hkT'.out _ w2 _ _ hM2 ?_, hkT'.out _ w2 _ _ hM2 ?_⟩
              · exact (cell_set_ne (by omega)).trans ((cell_set_ne (by omega)).trans ((cell_set_ne (by omega)).trans (World.cell?_setCell_same _ _ _ c0)))
              · exact (cell_set_ne (by omega)).trans ((cell_set_ne (by omega)).trans (World.cell?_setCell_same _ _ _ ((cell_set_ne (by omega)).trans c1)))
              · exact (cell_set_ne (by omega)).trans (World.cell?_setCell_same _ _ _ ((cell_set_ne (by omega)).trans ((cell_set_ne (by omega)).trans c2)))
              · exact World.cell?_setCell_same _ _ _ ((cell_set_ne (by omega)).trans ((cell_set_ne (by omega)).trans ((cell_set_ne (by omega)).trans c3)))
            · obtain ⟨d0, d1, d2, d3⟩ := hdn'.out j (by omega)
              exact ⟨hne4 _ _ (by omega) (by omega) (by omega) (by omega) d0, hne4 _ _ (by omega) (by omega) (by omega) (by omega) d1, hne4 _ _ (by omega) (by omega) (by omega) (by omega) d2, hne4 _ _ (by omega) (by omega) (by omega) (by omega) d3⟩
          · by_cases e : j = k
            · subst e
              rw [hx] at hy
              cases hy
              rw [hxe'.out] at hye
              cases hye
              intro m hm
              obtain ⟨b, off, e9, _, _, y0, y1, y2⟩ := hI2 m hm
              have hqq := hqk'.out
              refine ⟨b, off, e9, Nat.zero_le _, ltCell y0, ?_, ?_, ?_⟩
              · rw [y0]; simp only [hqq]
              · rw [y1]; simp only [hqq]
              · rw [y2]; simp only [hqq]
            · intro m hm
              obtain ⟨b, off, e9, _, _, y0, y1, y2⟩ := hdl'.out j y (by omega) hy la' lc' hye m hm
              have hob : y.2.ownBlock = some b := by rw [hye, e9]; rfl
              have hbT : b ≠ gT := fun e2 => hO.off y (List.mem_of_getElem? hy) b hob (by rw [e2]; rfl)
              have go4 : ∀ (o : Nat) (u : Value), wr.cell? ⟨b, o, none⟩ = some u → w2.cell? ⟨b, o, none⟩ = some u := fun o u hu =>
                hkL'.out _ w2 j y e hy b hob hM2 o u ((World.cell?_setCell_other _ _ _ _ (by intro e2; simp only [Addr.mk.injEq] at e2; exact hbT e2.1.symm)).trans ((World.cell?_setCell_other _ _ _ _ (by intro e2; simp only [Addr.mk.injEq] at e2; exact hbT e2.1.symm)).trans ((World.cell?_setCell_other _ _ _ _ (by intro e2; simp only [Addr.mk.injEq] at e2; exact hbT e2.1.symm)).trans ((World.cell?_setCell_other _ _ _ _ (by intro e2; simp only [Addr.mk.injEq] at e2; exact hbT e2.1.symm)).trans hu))))
              exact ⟨b, off, e9, Nat.zero_le _, ltCell (go4 _ _ y0), go4 _ _ y0, go4 _ _ y1, go4 _ _ y2⟩
          · exact hkO'.out _ w2 g (hgl x hxm) hM2 o u ((World.cell?_setCell_other _ _ _ _ (by intro e2; simp only [Addr.mk.injEq] at e2; exact hgg e2.1.symm)).trans ((World.cell?_setCell_other _ _ _ _ (by intro e2; simp only [Addr.mk.injEq] at e2; exact hgg e2.1.symm)).trans ((World.cell?_setCell_other _ _ _ _ (by intro e2; simp only [Addr.mk.injEq] at e2; exact hgg e2.1.symm)).trans ((World.cell?_setCell_other _ _ _ _ (by intro e2; simp only [Addr.mk.injEq] at e2; exact hgg e2.1.symm)).trans (hoth'.out g o u hgg hgl hu)))))
        case measure => simp [intOf] <;> omega
      · obtain rfl : k = L.length := by omega
        go_wp2
        go_ret
        refine ⟨rfl, fun j hj => ?_, hM, fun g o u hgg hgl hu => hoth g o u (fun e => hgg (by rw [e]; rfl)) hgl hu⟩
        have hx : L[j]? = some L[j] := List.getElem?_eq_getElem hj
        obtain ⟨la, lc, hxe, _⟩ := hleg _ (List.getElem_mem hj)
        have c4 := hdr j _ hx
        rw [hxe] at c4
        have hlt9 := ltCell c4
        dsimp only at hlt9
        obtain ⟨d0, d1, d2, d3⟩ := hdn j hj
        have hnx := nlOf_at hx
        have hn9 := hn _ (List.getElem_mem hj)
        refine ⟨gT, 0, la, lc, rfl, Nat.zero_le _, hlt9, by rw [Nat.zero_add]; exact d0, by rw [Nat.zero_add]; exact d1, by rw [Nat.zero_add]; exact d2, by rw [Nat.zero_add]; exact d3, by rw [Nat.zero_add, c4]; simp only [markT]; rw [hnx], ?_, ?_⟩
        · simp only [markT]; rw [hnx]; exact hdl j _ hj hx la lc hxe
        · simp only [markT]; rw [hnx]; unfold maxLen; omega
  · have hz : L.length = 0 := by omega
    go_enter Tryz.func41, Tryz.ntmps41
    go_wp2
    go_loopw [1, 5] (fun kv ii wr => kv = .int .i64 q ∧ ii = .int .i64 0 ∧ wr = w) (fun _ _ _ => 0)
    case atStart => exact ⟨rfl, rfl, rfl⟩
    case round =>
      obtain ⟨rfl, rfl, rfl⟩ := hrel
      have hz' : ¬ ((0 : Int) < (L.length : Int)) := by omega
      go_wp2
      go_ret
      refine ⟨?_, fun j hj => by omega, Mid.refl _ _ _, fun g o u _ _ hu => hu⟩
      simp [qT]
end Go.Proofs.YthnlkpifafklkaaGreatDoor
