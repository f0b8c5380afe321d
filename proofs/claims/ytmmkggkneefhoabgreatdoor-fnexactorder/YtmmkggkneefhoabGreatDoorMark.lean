/-
  The laws' marks: they write into what they are handed and nowhere else; what is marked is held.
-/
import Derived.Test.YtmmkggkneefhoabGreatDoorToM
namespace Go.Proofs.YtmmkggkneefhoabGreatDoor
open Go.RowKit

set_option maxHeartbeats 1000000 in
theorem markIntS_any (a : Option Addr) (len cap : Nat) (q : Int) (w : World) (lo hi : Nat) (hl : len ≤ 1048576) (h0 : 0 ≤ q) (h1 : q ≤ 281474976710656) (hS : Soft lo hi w a len) :
    Calls Tryz.prog 16 #[.slice a len cap, .int .i64 q] w fun e w' => e = .returned (.int .i64 (q + len)) ∧ IsInts lo hi w' a len (fun j => q + j) ∧ Mid lo hi w w' := by
  go_enter Tryz.func16, Tryz.ntmps16
  go_wp2
  go_loopw [1, 5] (fun kv i wr => ∃ (k : Nat), k ≤ len ∧ i = .int .i64 k ∧ kv = .int .i64 (q + k) ∧ IsInts lo hi wr a k (fun j => q + j) ∧ Mid lo hi w wr) (fun _ i _ => len - (intOf i).toNat)
  case atStart => exact ⟨0, Nat.zero_le _, rfl, by simp, fun _ h => by omega, Mid.refl _ _ _⟩
  case round =>
    obtain ⟨k, hk, rfl, rfl, hall, hM⟩ := hrel
    by_cases hlt : k < len
    · obtain ⟨b, off, v, rfl, hb0, hb1, c0, z0⟩ := (hS.mid hM) k hlt
      have hlt' : (k : Int) < (len : Int) := by omega
      go_wp2
      go_roundw
      case rel =>
        refine ⟨k + 1, by omega, by go_num, by go_num, fun j hj => ?_, hM.trans (Mid.set hb0 hb1 _)⟩
        refine ⟨b, off, rfl, hb0, hb1, ?_⟩
        by_cases e : j = k
        · subst e; exact World.cell?_setCell_same _ _ _ c0
        · obtain ⟨b', off', e', _, _, hc⟩ := hall j (by omega)
          cases e'
          exact (cell_set_ne (by omega)).trans hc
      case measure => simp [intOf]; omega
    · obtain rfl : k = len := by omega
      go_wp2
      go_ret
      exact ⟨rfl, hall, hM⟩

set_option maxHeartbeats 1000000 in
theorem heldIntS_any (a : Option Addr) (len cap : Nat) (q : Int) (w : World) (lo hi : Nat) (hl : len ≤ 1048576) (h0 : 0 ≤ q) (h1 : q ≤ 281474976710656) (hI : IsInts lo hi w a len (fun j => q + j)) :
    Calls Tryz.prog 30 #[.slice a len cap, .int .i64 q] w fun e w' => e = .returned (.int .i64 (q + len)) ∧ Below w.heap.size w w' := by
  go_enter Tryz.func30, Tryz.ntmps30
  go_wp2
  go_loopw [1, 5] (fun kv i wr => ∃ (k : Nat), k ≤ len ∧ i = .int .i64 k ∧ kv = .int .i64 (q + k) ∧ Below w.heap.size w wr) (fun _ i _ => len - (intOf i).toNat)
  case atStart => exact ⟨0, Nat.zero_le _, rfl, by simp, Below.refl _ _⟩
  case round =>
    obtain ⟨k, hk, rfl, rfl, hB⟩ := hrel
    by_cases hlt : k < len
    · obtain ⟨b, off, rfl, hb0, hb1, c0⟩ := hI k hlt
      replace c0 := cellLater hB c0
      have hlt' : (k : Int) < (len : Int) := by omega
      go_wp2
      go_roundw
      case rel => exact ⟨k + 1, by omega, by go_num, by go_num, hB⟩
      case measure => simp [intOf]; omega
    · obtain rfl : k = len := by omega
      go_wp2
      go_ret
      exact ⟨rfl, hB⟩

set_option maxHeartbeats 1000000 in
theorem markLegS_any (a : Option Addr) (len cap : Nat) (q : Int) (w : World) (lo hi : Nat) (hl : len ≤ 1048576) (h0 : 0 ≤ q) (h1 : q ≤ 281474976710656) (hS : Soft lo hi w a (len * 3)) :
    Calls Tryz.prog 82 #[.slice a len cap, .int .i64 q] w fun e w' => e = .returned (.int .i64 (q + len * 3)) ∧ Mid lo hi w w' := by
  go_enter Tryz.func82, Tryz.ntmps82
  go_wp2
  go_loopw [1, 5] (fun kv i wr => ∃ (k : Nat), k ≤ len ∧ i = .int .i64 k ∧ kv = .int .i64 (q + k * 3) ∧ Mid lo hi w wr) (fun _ i _ => len - (intOf i).toNat)
  case atStart => exact ⟨0, Nat.zero_le _, rfl, by simp, Mid.refl _ _ _⟩
  case round =>
    obtain ⟨k, hk, rfl, rfl, hM⟩ := hrel
    by_cases hlt : k < len
    · have hS' := hS.mid hM
      obtain ⟨b, off, v, rfl, hb0, hb1, c0, z0⟩ := hS' (k * 3) (by omega)
      obtain ⟨b', off', v1, e1, _, _, c1, z1⟩ := hS' (k * 3 + 1) (by omega)
      cases e1
      obtain ⟨b', off', v2, e2, _, _, c2, z2⟩ := hS' (k * 3 + 2) (by omega)
      cases e2
      rw [← Nat.add_assoc] at c1 z1 c2 z2
      have hlt' : (k : Int) < (len : Int) := by omega
      go_wp2
      go_roundw
      case rel => exact ⟨k + 1, by omega, by go_num, by go_num, ((hM.trans (Mid.set hb0 hb1 _)).trans (Mid.set hb0 hb1 _)).trans (Mid.set hb0 hb1 _)⟩
      case measure => simp [intOf]; omega
    · obtain rfl : k = len := by omega
      go_wp2
      go_ret
      exact ⟨rfl, hM⟩

set_option maxHeartbeats 2000000 in
theorem markTrainS_any (a : Option Addr) (len cap : Nat) (nl : Nat → Nat) (q : Int) (w : World) (lo hi : Nat) (hl : len ≤ 1048576) (hml : ∀ j, j < len → nl j ≤ 1048576) (h0 : 0 ≤ q) (h1 : q ≤ 1099511627776) (hS : SoftT lo hi w a len nl) :
    Calls Tryz.prog 49 #[.slice a len cap, .int .i64 q] w fun e w' => (∃ r : Int, e = .returned (.int .i64 r) ∧ q ≤ r ∧ r ≤ q + len * 4194304) ∧ Mid lo hi w w' := by
  go_enter Tryz.func49, Tryz.ntmps49
  go_wp2
  go_loopw [1, 5] (fun kv i wr => ∃ (k : Nat) (r : Int), k ≤ len ∧ i = .int .i64 k ∧ kv = .int .i64 r ∧ q ≤ r ∧ r ≤ q + k * 4194304 ∧ SoftT lo hi wr a len nl ∧ Mid lo hi w wr) (fun _ i _ => len - (intOf i).toNat)
  case atStart => exact ⟨0, q, Nat.zero_le _, rfl, rfl, Int.le_refl _, by simp, hS, Mid.refl _ _ _⟩
  case round =>
    obtain ⟨k, r, hk, rfl, rfl, hr0, hr1, hSw, hM⟩ := hrel
    by_cases hlt : k < len
    · obtain ⟨b, off, la, lc, rfl, hb0, hb1, hc, c4, hlg⟩ := hSw k hlt
      obtain ⟨v0, c0, z0⟩ := hc 0 (by omega)
      obtain ⟨v1, c1, z1⟩ := hc 1 (by omega)
      obtain ⟨v2, c2, z2⟩ := hc 2 (by omega)
      obtain ⟨v3, c3, z3⟩ := hc 3 (by omega)
      clear hc
      rw [Nat.add_zero] at c0 z0
      have hlt' : (k : Int) < (len : Int) := by omega
      have hmk := hml k hlt
      have hk2 : (k : Int) ≤ 1048576 := by omega
      go_wp2_with (go_at_call 82; refine (markLegS_any _ _ _ _ _ (b + 1) hi hmk (by omega) (by omega) ((((hlg.set _ _).set _ _).set _ _).set _ _)).mono ?_; rintro e w2 ⟨rfl, hM2⟩)
      go_roundw
      case rel =>
        refine ⟨k + 1, _, by omega, by go_num, rfl, by omega, by omega, fun j hj => ?_, ((((hM.trans (Mid.set hb0 hb1 _)).trans (Mid.set hb0 hb1 _)).trans (Mid.set hb0 hb1 _)).trans (Mid.set hb0 hb1 _)).trans (hM2.mono (by omega) (Nat.le_refl _))⟩
        obtain ⟨b', off', la', lc', e', _, _, k2, k3, k4⟩ := hSw j hj
        cases e'
        refine ⟨b, off, la', lc', rfl, hb0, hb1, fun c hc => ?_, hM2.cellBelow (Nat.lt_succ_self _) ((cell_set_ne (by omega)).trans ((cell_set_ne (by omega)).trans ((cell_set_ne (by omega)).trans ((cell_set_ne (by omega)).trans k3)))), (((((k4.set _ _).set _ _).set _ _).set _ _).mid hM2)⟩
        obtain ⟨v, hv, hf⟩ := k2 c hc
        exact (((((Mid.set (lo := 0) (hi := b + 1) (Nat.zero_le _) (Nat.lt_succ_self _) _).trans (Mid.set (Nat.zero_le _) (Nat.lt_succ_self _) _)).trans (Mid.set (Nat.zero_le _) (Nat.lt_succ_self _) _)).trans (Mid.set (Nat.zero_le _) (Nat.lt_succ_self _) _)).mono (lo' := 0) (hi' := hi) (Nat.zero_le _) (by omega) |>.trans (hM2.mono (Nat.zero_le _) (Nat.le_refl _))).keeps _ _ _ hv hf
      case measure => simp [intOf]; omega
    · obtain rfl : k = len := by omega
      go_wp2
      go_ret
      exact ⟨⟨_, rfl, hr0, hr1⟩, hM⟩

set_option maxHeartbeats 1000000 in
theorem markLine_any (a : Option Addr) (len cap : Nat) (gap : Int) (a' : Option Addr) (len' cap' : Nat) (nl : Nat → Nat) (w : World) (lo mid hi : Nat) (hl : len ≤ 1048576) (hl' : len' ≤ 1048576) (hml : ∀ j, j < len' → nl j ≤ 1048576) (h0 : lo ≤ mid) (h1 : mid ≤ hi) (h2 : hi ≤ w.heap.size) (hS : Soft lo mid w a len) (hT : SoftT mid hi w a' len' nl) :
    Calls Tryz.prog 15 #[.agg #[.slice a len cap, .int .i64 gap, .slice a' len' cap'], .int .i64 1] w fun e w' => (∃ r : Int, e = .returned (.int .i64 r) ∧ 1 ≤ r ∧ r ≤ 4398048608257) ∧ Mid lo hi w w' := by
  go_enter Tryz.func15, Tryz.ntmps15
  have hb := b1 w (.cells #[.slice a len cap, .int .i64 gap, .slice a' len' cap'] 35)
  obtain ⟨n0, n1, n2⟩ := new3 w (.slice a len cap) (.int .i64 gap) (.slice a' len' cap') 35
  go_wp2_with (first | (go_at_call 16; refine (markIntS_any _ _ _ _ _ lo mid hl (by omega) (by omega) (hS.later hb)).mono ?_; rintro e w2 ⟨rfl, _, hM2⟩; replace n2 := hM2.cellAbove (by omega) n2) | (go_at_call 49; refine (markTrainS_any _ _ _ nl _ _ mid hi hl' hml (by omega) (by omega) ((hT.later hb).mid hM2 (Nat.le_refl _))).mono ?_; rintro e w3 ⟨⟨r, rfl, hr0, hr1⟩, hM3⟩))
  go_ret
  exact ⟨⟨_, rfl, by omega, by omega⟩, ((Mid.ofBelow (lo := lo) (hi := hi) hb (by omega)).trans (hM2.mono (Nat.le_refl _) h1)).trans (hM3.mono h0 (Nat.le_refl _))⟩

set_option maxHeartbeats 2000000 in
theorem markIntSS_any (a : Option Addr) (len cap : Nat) (n : Nat → Nat) (q : Int) (w : World) (lo hi : Nat) (hl : len ≤ 1048576) (hml : ∀ j, j < len → n j ≤ 1048576) (h0 : 0 ≤ q) (h1 : q ≤ 17592186044416) (hS : SoftR lo hi w a len n) :
    Calls Tryz.prog 64 #[.slice a len cap, .int .i64 q] w fun e w' => (∃ r : Int, e = .returned (.int .i64 r) ∧ q ≤ r ∧ r ≤ q + len * 1048576) ∧ Mid lo hi w w' := by
  go_enter Tryz.func64, Tryz.ntmps64
  go_wp2
  go_loopw [1, 5] (fun kv i wr => ∃ (k : Nat) (r : Int), k ≤ len ∧ i = .int .i64 k ∧ kv = .int .i64 r ∧ q ≤ r ∧ r ≤ q + k * 1048576 ∧ SoftR lo hi wr a len n ∧ Mid lo hi w wr) (fun _ i _ => len - (intOf i).toNat)
  case atStart => exact ⟨0, q, Nat.zero_le _, rfl, rfl, Int.le_refl _, by simp, hS, Mid.refl _ _ _⟩
  case round =>
    obtain ⟨k, r, hk, rfl, rfl, hr0, hr1, hSw, hM⟩ := hrel
    by_cases hlt : k < len
    · obtain ⟨b, off, la, lc, rfl, hb0, hb1, c4, hlg⟩ := hSw k hlt
      have hlt' : (k : Int) < (len : Int) := by omega
      have hmk := hml k hlt
      have hk2 : (k : Int) ≤ 1048576 := by omega
      go_wp2_with (go_at_call 16; refine (markIntS_any _ _ _ _ _ (b + 1) hi hmk (by omega) (by omega) hlg).mono ?_; rintro e w2 ⟨rfl, _, hM2⟩)
      go_roundw
      case rel =>
        refine ⟨k + 1, _, by omega, by go_num, rfl, by omega, by omega, fun j hj => ?_, hM.trans (hM2.mono (by omega) (Nat.le_refl _))⟩
        obtain ⟨b', off', la', lc', e', _, _, k3, k4⟩ := hSw j hj
        cases e'
        exact ⟨b, off, la', lc', rfl, hb0, hb1, hM2.cellBelow (Nat.lt_succ_self _) k3, k4.mid hM2⟩
      case measure => simp [intOf]; omega
    · obtain rfl : k = len := by omega
      go_wp2
      go_ret
      exact ⟨⟨_, rfl, hr0, hr1⟩, hM⟩

set_option maxHeartbeats 1000000 in
theorem markPlan_any (a : Option Addr) (len cap : Nat) (n : Nat → Nat) (q : Int) (w : World) (lo hi : Nat) (hl : len ≤ 1048576) (hml : ∀ j, j < len → n j ≤ 1048576) (h0 : 0 ≤ q) (h1 : q ≤ 17592186044416) (h2 : hi ≤ w.heap.size) (h3 : lo ≤ hi) (hS : SoftR lo hi w a len n) :
    Calls Tryz.prog 29 #[.agg #[.slice a len cap], .int .i64 q] w fun e w' => (∃ r : Int, e = .returned (.int .i64 r) ∧ q ≤ r ∧ r ≤ q + len * 1048576) ∧ Mid lo hi w w' := by
  go_enter Tryz.func29, Tryz.ntmps29
  have hb := b1 w (.cells #[.slice a len cap] 29)
  go_wp2_with (first | (go_at_call 64; refine (markIntSS_any _ _ _ n _ _ lo hi hl hml h0 h1 (hS.later hb)).mono ?_; rintro e w2 ⟨⟨r, rfl, hr0, hr1⟩, hM2⟩))
  go_ret
  exact ⟨⟨_, rfl, hr0, hr1⟩, (Mid.ofBelow (lo := lo) (hi := hi) hb (by omega)).trans hM2⟩
end Go.Proofs.YtmmkggkneefhoabGreatDoor
