/-
  The program's small functions of the second chapter: what each answers.
-/
import Derived.Test.YtelickcfodcmaaaGreatDoorImplP
import Derived.Test.YtelickcfodcmaaaGreatDoorPlainH
namespace Go.Proofs.YtelickcfodcmaaaGreatDoor
open Go.RowKit

theorem ahead_any (t : TrainD) (k : Nat) (la : Option Addr) (lc : Nat) (w : World) (hk : k ≤ t.nl) (hn : t.nl ≤ 10) (hL : IsLegs 0 w.heap.size w la t.nl t.leg) :
    Calls Tryz.prog 93 #[.agg #[.int .i64 t.frm, .int .i64 t.ready, .int .i64 t.due, .int .i64 t.weight, .slice la t.nl lc], .int .i64 k] w fun e w' => e = .returned (.int .i64 (cur t k)) ∧ Below w.heap.size w w' := by
  cases k with
  | zero =>
    go_enter Tryz.func93, Tryz.ntmps93
    go_wp2
    go_ret
    exact ⟨rfl, b1 _ _⟩
  | succ k =>
    have e0 : ((k + 1 : Nat) : Int) = (k : Int) + 1 := by omega
    rw [e0]
    have hz : ((k : Int) + 1 == 0) = false := by simp; omega
    obtain ⟨b, off, rfl, _, hb, c0, c1, c2⟩ := hL k (by omega)
    have hk' : (k : Int) < (t.nl : Int) := by omega
    go_enter Tryz.func93, Tryz.ntmps93
    go_wp2
    go_ret
    exact ⟨rfl, b1 _ _⟩

set_option maxRecDepth 20000 in
set_option maxHeartbeats 2000000 in
theorem trackOf_any (t : TrainD) (k : Nat) (la : Option Addr) (lc : Nat) (w : World) (hk : k < t.nl) (hn : t.nl ≤ 10) (hL : IsLegs 0 w.heap.size w la t.nl t.leg) :
    Calls Tryz.prog 57 #[.agg #[.int .i64 t.frm, .int .i64 t.ready, .int .i64 t.due, .int .i64 t.weight, .slice la t.nl lc], .int .i64 k] w fun e w' => e = .returned (.int .i64 (trackOf t k)) ∧ Below w.heap.size w w' := by
  obtain ⟨b, off, rfl, _, hb, c0, c1, c2⟩ := hL k hk
  have hk' : (k : Int) < (t.nl : Int) := by omega
  have hk0 : (0 : Int) ≤ (k : Int) := by omega
  have hB1 := b1 w (.cells #[.int .i64 t.frm, .int .i64 t.ready, .int .i64 t.due, .int .i64 t.weight, .slice (some ⟨b, off, none⟩) t.nl lc] 72)
  have hL1 := hL.grow hB1.drew
  replace c0 := cellLater hB1 c0
  by_cases hlt : (t.leg k).to < cur t k
  · have e1 : trackOf t k = (t.leg k).to := by unfold trackOf; rw [if_pos hlt]
    rw [e1]
    go_enter Tryz.func57, Tryz.ntmps57
    go_wp2
    go_region_held3 (fun w' => w'.cell? ⟨w.heap.size, 0, none⟩ = some (.int .i64 t.frm) ∧ w'.cell? ⟨w.heap.size, 1, none⟩ = some (.int .i64 t.ready) ∧ w'.cell? ⟨w.heap.size, 2, none⟩ = some (.int .i64 t.due) ∧ w'.cell? ⟨w.heap.size, 3, none⟩ = some (.int .i64 t.weight) ∧ w'.cell? ⟨w.heap.size, 4, none⟩ = some (.slice (some ⟨b, off, none⟩) t.nl lc) ∧ w'.cell? ⟨b, off + k * 3, none⟩ = some (.int .i64 (t.leg k).to)) (first | go_keep | (go_split_ands; refine ⟨?_, ?_, ?_, ?_, ?_, ?_⟩ <;> exact cellLater hB3 (by assumption))) ((first | (go_at_call 93; refine (ahead_any t k _ _ _ (by omega) hn hL1).mono ?_; rintro e w3 ⟨rfl, hB3⟩)))
    go_wp2
    go_ret
    exact ⟨rfl, Below.join hB1.drew (Nat.le_refl _) hB3⟩
  · have e1 : trackOf t k = cur t k := by unfold trackOf; rw [if_neg hlt]
    rw [e1]
    go_enter Tryz.func57, Tryz.ntmps57
    go_wp2
    go_region_held3 (fun w' => w'.cell? ⟨w.heap.size, 0, none⟩ = some (.int .i64 t.frm) ∧ w'.cell? ⟨w.heap.size, 1, none⟩ = some (.int .i64 t.ready) ∧ w'.cell? ⟨w.heap.size, 2, none⟩ = some (.int .i64 t.due) ∧ w'.cell? ⟨w.heap.size, 3, none⟩ = some (.int .i64 t.weight) ∧ w'.cell? ⟨w.heap.size, 4, none⟩ = some (.slice (some ⟨b, off, none⟩) t.nl lc) ∧ w'.cell? ⟨b, off + k * 3, none⟩ = some (.int .i64 (t.leg k).to)) (first | go_keep | (go_split_ands; refine ⟨?_, ?_, ?_, ?_, ?_, ?_⟩ <;> exact cellLater hB3 (by assumption))) ((first | (go_at_call 93; refine (ahead_any t k _ _ _ (by omega) hn hL1).mono ?_; rintro e w3 ⟨rfl, hB3⟩)))
    go_wp2
    go_ret
    exact ⟨rfl, Below.join hB1.drew (Nat.le_refl _) hB3⟩

/-- when a train leaves the station to which a leg leads, by its starts -/
def leavesR (t : TrainD) (r : RowD) (k : Nat) : Int := if k + 1 < r.n then r.s (k + 1) else r.s k + (t.leg k).run
set_option maxHeartbeats 2000000 in
theorem leaves_any (t : TrainD) (r : RowD) (k : Nat) (la : Option Addr) (lc : Nat) (sa : Option Addr) (sc : Nat) (w : World) (hk : k < t.nl) (hR : RightT t) (hrn : r.n = t.nl) (hs : ∀ k, k < t.nl → 0 ≤ r.s k ∧ r.s k ≤ 1000000)
    (hL : IsLegs 0 w.heap.size w la t.nl t.leg) (hI : IsInts 0 w.heap.size w sa t.nl r.s) :
    Calls Tryz.prog 58 #[.agg #[.int .i64 t.frm, .int .i64 t.ready, .int .i64 t.due, .int .i64 t.weight, .slice la t.nl lc], .slice sa t.nl sc, .int .i64 k] w fun e w' => e = .returned (.int .i64 (leavesR t r k)) ∧ Below w.heap.size w w' := by
  have hn := hR.nl
  by_cases hm : k + 1 < t.nl
  · have hL' : leavesR t r k = r.s (k + 1) := by unfold leavesR; rw [if_pos (by omega)]
    rw [hL']
    obtain ⟨bi, oi, rfl, _, hbi, q0⟩ := hI (k + 1) hm
    have hk1 : (k : Int) + 1 < (t.nl : Int) := by omega
    have hn1 : (0 : Int) ≤ (k : Int) + 1 := by omega
    have hn2 : ((k : Int) + 1).toNat = k + 1 := by omega
    clear hrn hL'
    go_enter Tryz.func58, Tryz.ntmps58
    go_wp2
    go_ret
    exact ⟨rfl, b1 _ _⟩
  · have hL' : leavesR t r k = r.s k + (t.leg k).run := by unfold leavesR; rw [if_neg (by omega)]
    rw [hL']
    obtain ⟨s0, s1⟩ := hs k hk
    have hk1 : (t.nl : Int) ≤ (k : Int) + 1 := by omega
    have hkn : t.nl = k + 1 := by omega
    have hI1 : IsInts 0 w.heap.size w sa (k + 1) r.s := fun j hj => hI j (by omega)
    have he := fun W lc' sc' hl hi => end_any t k la lc' r.s sa sc' W hk hR s0 s1 hl hi
    rw [show ((k + 1 : Nat)) = t.nl from hkn.symm] at he hI1
    have hB1 := b1 w (.cells #[.int .i64 t.frm, .int .i64 t.ready, .int .i64 t.due, .int .i64 t.weight, .slice la t.nl lc] 72)
    have hL1 := hL.grow hB1
    replace hI1 := hI1.grow hB1
    clear hrn hL' hkn
    go_enter Tryz.func58, Tryz.ntmps58
    go_wp2_with (go_at_call 39; refine (he _ _ _ hL1 hI1).mono ?_; rintro e w3 ⟨rfl, hB3⟩)
    go_ret
    exact ⟨rfl, Below.join hB1 (Nat.le_refl _) hB3⟩

/-- when a train can begin a leg, by its starts -/
def readyR (t : TrainD) (s : Nat → Int) : Nat → Int
  | 0 => t.ready + (t.leg 0).stay
  | k + 1 => s k + (t.leg k).run + (t.leg (k + 1)).stay
set_option maxRecDepth 20000 in
set_option maxHeartbeats 2000000 in
theorem soonest_any (t : TrainD) (s : Nat → Int) (k : Nat) (la : Option Addr) (lc : Nat) (sa : Option Addr) (sc : Nat) (w : World) (hk : k < t.nl) (hR : RightT t) (hs : ∀ j, j < k → 0 ≤ s j ∧ s j ≤ 1000000)
    (hL : IsLegs 0 w.heap.size w la t.nl t.leg) (hI : IsInts 0 w.heap.size w sa k s) :
    Calls Tryz.prog 59 #[.agg #[.int .i64 t.frm, .int .i64 t.ready, .int .i64 t.due, .int .i64 t.weight, .slice la t.nl lc], .slice sa k sc] w fun e w' => e = .returned (.int .i64 (readyR t s k)) ∧ Below w.heap.size w w' := by
  have hn := hR.nl
  have hr0 := hR.r0
  have hr1 := hR.r1
  obtain ⟨l0, l1, l2, l3⟩ := hR.leg k hk
  obtain ⟨b, off, rfl, _, hb, c0, c1, c2⟩ := hL k hk
  have hkn : (k : Int) < (t.nl : Int) := by omega
  have hk0 : (0 : Int) ≤ (k : Int) := by omega
  cases k with
  | zero =>
    simp only [Nat.zero_mul, Nat.add_zero] at c0 c1 c2
    go_enter Tryz.func59, Tryz.ntmps59
    go_wp2
    go_ret
    exact ⟨rfl, b2 _ _ _⟩
  | succ k =>
    obtain ⟨s0, s1⟩ := hs k (by omega)
    obtain ⟨m0, m1, m2, m3⟩ := hR.leg k (by omega)
    have hz : (((k + 1 : Nat) : Int) == 0) = false := by simp; omega
    have hB2 := b2 w (.cells #[.int .i64 t.frm, .int .i64 t.ready, .int .i64 t.due, .int .i64 t.weight, .slice (some ⟨b, off, none⟩) t.nl lc] 72) (.cells #[.int .i64 (t.leg (k + 1)).to, .int .i64 (t.leg (k + 1)).run, .int .i64 (t.leg (k + 1)).stay] 74)
    have hL1 := hL.grow hB2.drew
    have hI1 := hI.grow hB2.drew
    go_enter Tryz.func59, Tryz.ntmps59
    go_wp2
    go_region_held3 (fun w' => w'.cell? ⟨w.heap.size, 0, none⟩ = some (.int .i64 t.frm) ∧ w'.cell? ⟨w.heap.size, 1, none⟩ = some (.int .i64 t.ready) ∧ w'.cell? ⟨w.heap.size, 2, none⟩ = some (.int .i64 t.due) ∧ w'.cell? ⟨w.heap.size, 3, none⟩ = some (.int .i64 t.weight) ∧ w'.cell? ⟨w.heap.size, 4, none⟩ = some (.slice (some ⟨b, off, none⟩) t.nl lc) ∧ w'.cell? ⟨w.heap.size + 1, 2, none⟩ = some (.int .i64 (t.leg (k + 1)).stay)) (first | go_keep | (go_split_ands; refine ⟨?_, ?_, ?_, ?_, ?_, ?_⟩ <;> exact cellLater hB3 (by assumption))) ((first | (go_at_call 39; refine (end_any t k _ _ s _ _ _ (by omega) hR s0 s1 hL1 hI1).mono ?_; rintro e w3 ⟨rfl, hB3⟩)))
    go_wp2
    go_ret
    exact ⟨ret_int (by rw [IntKind.wrap_i64]; simp only [readyR]; omega), Below.join hB2.drew (Nat.le_refl _) hB3⟩

theorem metBy_any (h : HoldD) (i : Nat) (t : Int) (w : World) :
    Calls Tryz.prog 60 #[.agg #[.int .i64 h.tr, .int .i64 h.frm, .int .i64 h.free], .int .i64 i, .int .i64 t] w fun e w' => e = .returned (.bool (metB i t h)) ∧ Below w.heap.size w w' := by
  by_cases h1 : h.frm < t
  · by_cases h2 : t < h.free
    · have e : metB i t h = true := decide_eq_true ⟨Or.inl h1, h2⟩
      rw [e]
      go_enter Tryz.func60, Tryz.ntmps60
      go_wp2
      go_ret
      exact ⟨rfl, b1 _ _⟩
    · have e : metB i t h = false := decide_eq_false (fun hh => h2 hh.2)
      rw [e]
      go_enter Tryz.func60, Tryz.ntmps60
      go_wp2
      go_ret
      exact ⟨rfl, b1 _ _⟩
  · by_cases h3 : h.frm = t
    · by_cases h4 : h.tr ≤ i
      · by_cases h2 : t < h.free
        · have e : metB i t h = true := decide_eq_true ⟨Or.inr ⟨h3, h4⟩, h2⟩
          rw [e]
          have h4' : (h.tr : Int) ≤ (i : Int) := by omega
          go_enter Tryz.func60, Tryz.ntmps60
          go_wp2
          go_ret
          exact ⟨rfl, b1 _ _⟩
        · have e : metB i t h = false := decide_eq_false (fun hh => h2 hh.2)
          rw [e]
          have h4' : (h.tr : Int) ≤ (i : Int) := by omega
          go_enter Tryz.func60, Tryz.ntmps60
          go_wp2
          go_ret
          exact ⟨rfl, b1 _ _⟩
      · have e : metB i t h = false := decide_eq_false (fun hh => by rcases hh.1 with g | g; exact h1 g; exact h4 g.2)
        rw [e]
        have h4' : ¬ (h.tr : Int) ≤ (i : Int) := by omega
        go_enter Tryz.func60, Tryz.ntmps60
        go_wp2
        go_ret
        exact ⟨rfl, b1 _ _⟩
    · have e : metB i t h = false := decide_eq_false (fun hh => by rcases hh.1 with g | g; exact h1 g; exact h3 g.1)
      rw [e]
      have h3' : (h.frm == t) = false := by simpa using h3
      go_enter Tryz.func60, Tryz.ntmps60
      go_wp2
      go_ret
      exact ⟨rfl, b1 _ _⟩
end Go.Proofs.YtelickcfodcmaaaGreatDoor
