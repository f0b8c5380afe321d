/-
  The laws' copy of a plan: its rows have room for what they hold.
-/
import Derived.Test.YthnlkpifafklkaaGreatDoorPlans
namespace Go.Proofs.YthnlkpifafklkaaGreatDoor
open Go.RowKit

def Caps (W : World) (c : Option Addr) (np : Nat) : Prop := ∀ j, j < np → ∃ b off la n lc, c = some ⟨b, off, none⟩ ∧ W.cell? ⟨b, off + j, none⟩ = some (.slice la n lc) ∧ n ≤ lc
theorem Caps.later {W W' : World} {c : Option Addr} {np : Nat} (h : Caps W c np) (hB : Below W.heap.size W W') : Caps W' c np := fun j hj => by
  obtain ⟨b, off, la, n, lc, e, hc, hl⟩ := h j hj
  exact ⟨b, off, la, n, lc, e, cellLater hB hc, hl⟩
theorem Caps.at {W : World} {b off np : Nat} (h : Caps W (some ⟨b, off, none⟩) np) {j : Nat} (hj : j < np) {la : Option Addr} {n lc : Nat} (hc : W.cell? ⟨b, off + j, none⟩ = some (.slice la n lc)) : n ≤ lc := by
  obtain ⟨b', off', la', n', lc', e, hc', hl⟩ := h j hj
  cases e
  rw [hc] at hc'
  cases hc'
  exact hl

set_option maxHeartbeats 2000000 in
theorem toIntSSC_any (a : Option Addr) (len cap : Nat) (f : Nat → RowD) (w : World) (hl : len ≤ 1048576) (hml : ∀ j, j < len → (f j).n ≤ 1048576) (hI : IsRows 0 w.heap.size w a len f) :
    Calls Tryz.prog 54 #[.slice a len cap] w fun e w' => (∃ a', e = .returned (.slice a' len len) ∧ IsRows w.heap.size w'.heap.size w' a' len f ∧ Caps w' a' len) ∧ Below w.heap.size w w' := by
  obtain ⟨w1, hmk, hR, hB1, hs1⟩ := make_row 27 22 _ _ _ Tryz.underlying27 Tryz.infoRow (by omega) len hl w
  go_enter Tryz.func54, Tryz.ntmps54
  go_wp2
  go_loopw [4] (fun i wr => ∃ (k : Nat), k ≤ len ∧ i = .int .i64 k ∧ Room w.heap.size (len * 1) wr ∧ (∀ j, j < k → ∃ la lc, wr.cell? ⟨w.heap.size, j, none⟩ = some (.slice la (f j).n lc) ∧ (f j).n ≤ lc ∧ IsInts (w.heap.size + 1) wr.heap.size wr la (f j).n (f j).s) ∧ Below w.heap.size w wr ∧ w.heap.size < wr.heap.size) (fun i _ => len - (intOf i).toNat)
  case atStart => exact ⟨0, Nat.zero_le _, rfl, hR, fun _ h => by omega, hB1, by omega⟩
  case round =>
    obtain ⟨k, hk, rfl, hRw, hall, hB, hsz⟩ := hrel
    by_cases hlt : k < len
    · obtain ⟨b, off, la, lc, rfl, _, hb, c0, hlg, hm'⟩ := (hI.below hB (Nat.le_refl _)) k hlt
      have hlg' : IsInts 0 wr.heap.size wr la (f k).n (f k).s := hlg.mono (Nat.le_refl _) hB.size
      go_wp2_with (go_at_call 9; refine (toIntS_any _ _ _ (f k).s _ (hml k hlt) hlg').mono ?_; rintro e w2 ⟨⟨a2, rfl, hI2⟩, hB2⟩; have hR2 := hRw.below hB2 hsz; obtain ⟨v0, hv0, hf0⟩ := hR2 k (by omega))
      go_roundw
      case rel =>
        refine ⟨k + 1, by omega, by go_num, hR2.set _ _, fun j hj => ?_, (hB.trans (hB2.mono hB.size)).setCell (p := ⟨w.heap.size, _, none⟩) (Nat.le_refl _) _, by have := hB2.size; simp; omega⟩
        by_cases e : j = k
        · subst e
          exact ⟨a2, (f j).n, cell_set_eq hR2 (by omega), Nat.le_refl _, (hI2.same (Same.set (by simpa using hsz))).mono hsz (by simp)⟩
        · obtain ⟨la', lc', h0, hlc, h5⟩ := hall j (by omega)
          exact ⟨la', lc', (cell_set_ne (by omega)).trans ((hB2.cell (p := ⟨w.heap.size, _, none⟩) hsz).trans h0), hlc, ((h5.below hB2 (Nat.le_refl _)).same (Same.set (by simp))).mono (Nat.le_refl _) (by have := hB2.size; simp; omega)⟩
      case measure => simp [intOf]; omega
    · obtain rfl : k = len := by omega
      go_wp2
      go_ret
      refine ⟨⟨_, rfl, fun j hj => ?_, fun j hj => ?_⟩, hB⟩
      rotate_left
      · obtain ⟨la', lc', h0, hlc, h5⟩ := hall j hj
        exact ⟨_, 0, la', _, lc', rfl, by rw [Nat.zero_add]; exact h0, hlc⟩
      obtain ⟨la', lc', h0, hlc, h5⟩ := hall j hj
      have := hml j hj
      exact ⟨_, 0, la', lc', rfl, Nat.le_refl _, hsz, by rw [Nat.zero_add]; exact h0, h5.mono (by omega) (Nat.le_refl _), by unfold maxLen; omega⟩

set_option maxHeartbeats 1000000 in
theorem toPlanC_any (a : Option Addr) (len cap : Nat) (f : Nat → RowD) (w : World) (hl : len ≤ 1048576) (hml : ∀ j, j < len → (f j).n ≤ 1048576) (hI : IsRows 0 w.heap.size w a len f) :
    Calls Tryz.prog 25 #[.agg #[.slice a len cap]] w fun e w' => (∃ b, e = .returned (.agg #[.slice b len len]) ∧ IsRows w.heap.size w'.heap.size w' b len f ∧ Caps w' b len) ∧ Below w.heap.size w w' := by
  go_enter Tryz.func25, Tryz.ntmps25
  go_wp2_with (go_at_call 54; refine (toIntSSC_any _ _ _ f _ hl hml (hI.grow (b3 _ _ _ _))).mono ?_; rintro e w2 ⟨⟨b, rfl, hI2, hC2⟩, hB2⟩; obtain ⟨hc, hf⟩ := bcell hB2; have hz : w.heap.size + 2 < w2.heap.size := (by have := hB2.size; simp at this; omega))
  refine bodyPost_ret (v := .agg #[.slice b len len]) (by simp [results, Tryz.results25, go_sem, hc]) rfl ⟨⟨b, rfl, ?_, ?_⟩, ?_⟩
  rotate_left
  · intro j hj
    obtain ⟨bb, off, la, n, lc, rfl, hc0, hle⟩ := hC2 j hj
    obtain ⟨bb', off', la', lc', e', hmm, hnn, hc0', _⟩ := hI2 j hj
    cases e'
    have h3 : w.heap.size + 3 ≤ bb := by have := hmm; simp at this; omega
    exact ⟨bb, off, la, n, lc, rfl, (Same.set (m₀ := w.heap.size + 3) (n₀ := bb + 1) (by simp)).cell h3 (by omega) ((Same.set (m₀ := w.heap.size + 3) (n₀ := bb + 1) (by simp)).cell h3 (by omega) hc0), hle⟩
  rotate_left
  · refine (((hI2.mono (m₁ := w.heap.size + 3) (by simp) (Nat.le_refl _)).same (Same.set (by simp))).same (Same.set (by simp))).mono (by omega) (by simp)
  · exact (((b3 _ _ _ _).trans (hB2.mono (by simp; omega))).setCell (p := ⟨w.heap.size + 1 + 1, _, none⟩) (by simp; omega) _).setCell (p := ⟨w.heap.size + 1, _, none⟩) (by simp) _

end Go.Proofs.YthnlkpifafklkaaGreatDoor
