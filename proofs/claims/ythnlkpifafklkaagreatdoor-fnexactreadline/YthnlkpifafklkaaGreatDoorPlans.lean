/-
  Plans as plain data, how they lie in memory; the laws' own measure, copy and comparison of a plan.
-/
import Derived.Test.YthnlkpifafklkaaGreatDoorSz
import Derived.Test.YthnlkpifafklkaaGreatDoorTo
import Derived.Test.YthnlkpifafklkaaGreatDoorEq
namespace Go.Proofs.YthnlkpifafklkaaGreatDoor
open Go.RowKit

/-- the world at hand by a letter -/
theorem nameW {P : Program} {c : Code} {Q : Exit → Act → World → Prop} {a : Act} {W : World} (h : ∀ W', W' = W → c.wp P Q a W') : c.wp P Q a W := h W rfl
structure RowD where
  n : Nat
  s : Nat → Int

def IsRows (m₀ n₀ : Nat) (W : World) (a : Option Addr) (len : Nat) (f : Nat → RowD) : Prop :=
  ∀ j, j < len → ∃ b off la lc, a = some ⟨b, off, none⟩ ∧ m₀ ≤ b ∧ b < n₀ ∧ W.cell? ⟨b, off + j, none⟩ = some (.slice la (f j).n lc) ∧ IsInts m₀ n₀ W la (f j).n (f j).s ∧ (f j).n ≤ maxLen
theorem IsRows.same {m₀ n₀ : Nat} {W W' : World} {a : Option Addr} {len : Nat} {f : Nat → RowD} (h : IsRows m₀ n₀ W a len f) (hs : Same m₀ n₀ W W') : IsRows m₀ n₀ W' a len f := fun j hj => by
  obtain ⟨b, off, la, lc, e, hm, hbn, h0, h5, h6⟩ := h j hj
  exact ⟨b, off, la, lc, e, hm, hbn, hs.cell hm hbn h0, h5.same hs, h6⟩
theorem IsRows.mono {m₀ n₀ m₁ n₁ : Nat} {W : World} {a : Option Addr} {len : Nat} {f : Nat → RowD} (h : IsRows m₀ n₀ W a len f) (hm : m₁ ≤ m₀) (hn : n₀ ≤ n₁) : IsRows m₁ n₁ W a len f := fun j hj => by
  obtain ⟨b, off, la, lc, e, hb0, hbn, h0, h5, h6⟩ := h j hj
  exact ⟨b, off, la, lc, e, by omega, by omega, h0, h5.mono hm hn, h6⟩
theorem IsRows.below {m₀ n₀ B : Nat} {W W' : World} {a : Option Addr} {len : Nat} {f : Nat → RowD} (h : IsRows m₀ n₀ W a len f) (hb : Below B W W') (hB : n₀ ≤ B) : IsRows m₀ n₀ W' a len f := h.same (Same.below hb hB)
theorem IsRows.grow {m₀ : Nat} {W W' : World} {a : Option Addr} {len : Nat} {f : Nat → RowD} (h : IsRows m₀ W.heap.size W a len f) (hb : Below W.heap.size W W') : IsRows m₀ W'.heap.size W' a len f := (h.below hb (Nat.le_refl _)).mono (Nat.le_refl _) hb.size

set_option maxHeartbeats 1000000 in
theorem szIntSS_any (a : Option Addr) (len cap : Nat) (f : Nat → RowD) (left : Int) (w : World) (hl : len ≤ maxLen) (h0 : 0 ≤ left) (h1 : left ≤ 1048576) (hT : IsRows 0 w.heap.size w a len f) :
    Calls Tryz.prog 49 #[.slice a len cap, .int .i64 left] w fun e w' => (∃ r : Int, e = .returned (.int .i64 r) ∧ r ≤ 1048576 ∧ (0 ≤ r → len ≤ 1048576 ∧ ∀ j, j < len → (f j).n ≤ 1048576)) ∧ w' = w := by
  unfold maxLen at hl
  by_cases h : left < (len : Int)
  · go_enter Tryz.func49, Tryz.ntmps49
    go_wp2
    go_ret
    exact ⟨⟨_, rfl, by omega, fun h => by omega⟩, rfl⟩
  · go_enter Tryz.func49, Tryz.ntmps49
    go_wp2
    go_loop [1, 5] (fun l i => ∃ (k : Nat) (L : Int), k ≤ len ∧ i = .int .i64 k ∧ l = .int .i64 L ∧ 0 ≤ L ∧ L ≤ 1048576 ∧ (∀ j, j < k → (f j).n ≤ 1048576)) (fun _ i => len - (intOf i).toNat)
    case atStart => exact ⟨0, left - len, Nat.zero_le _, rfl, rfl, by omega, by omega, fun _ h => by omega⟩
    case round =>
      obtain ⟨k, L, hk, rfl, rfl, hL0, hL1, hall⟩ := hrel
      by_cases hlt : k < len
      · obtain ⟨b, off, la, lc, rfl, _, hb, c0, hlg, hml⟩ := hT k hlt
        by_cases hn : L < ((f k).n : Int)
        · go_wp2_with (go_at_call 28; refine (szIntS_any _ _ _ _ _ hml hL0 hL1).mono ?_; rintro e w' ⟨rfl, rfl⟩)
          go_ret
          exact ⟨⟨_, rfl, by omega, fun h => by omega⟩, rfl⟩
        · go_wp2_with (go_at_call 28; refine (szIntS_any _ _ _ _ _ hml hL0 hL1).mono ?_; rintro e w' ⟨rfl, rfl⟩)
          go_round
          case rel => exact ⟨k + 1, L - (f k).n, by omega, by go_num, by rw [if_neg (by omega)], by omega, by omega, fun j hj => (by by_cases e : j = k; (· subst e; omega); (· exact hall j (by omega)))⟩
          case measure => simp [intOf]; omega
      · go_wp2
        go_ret
        exact ⟨⟨_, rfl, by omega, fun _ => ⟨by omega, fun j hj => hall j (by omega)⟩⟩, rfl⟩

theorem szPlan_any (a : Option Addr) (len cap : Nat) (f : Nat → RowD) (left : Int) (w : World) (hl : len ≤ maxLen) (h0 : 0 ≤ left) (h1 : left ≤ 1048576) (hT : IsRows 0 w.heap.size w a len f) :
    Calls Tryz.prog 23 #[.agg #[.slice a len cap], .int .i64 left] w fun e w' => (∃ r : Int, e = .returned (.int .i64 r) ∧ r ≤ 1048576 ∧ (0 ≤ r → len ≤ 1048576 ∧ ∀ j, j < len → (f j).n ≤ 1048576)) ∧ Below w.heap.size w w' := by
  have hT1 := hT.grow (b1 w (.cells #[.slice a len cap] 51))
  go_enter Tryz.func23, Tryz.ntmps23
  go_wp2_with (go_at_call 49; refine (szIntSS_any _ _ _ f _ _ hl h0 h1 hT1).mono ?_; rintro e w2 ⟨⟨r, rfl, hr1, hr'⟩, rfl⟩; have hr : Hid _ := hr'; clear hr')
  all_goals
    go_ret
    exact ⟨⟨_, rfl, by omega, fun h => by first | omega | exact hr.out h⟩, b1 _ _⟩

theorem Tryz.infoRow : (Tryz.prog.info? 22).map (fun i => (i.zero, i.size, i.bytes)) = some (some (.slice none 0 0), 1, 24) := by kernel_rfl

set_option maxHeartbeats 2000000 in
theorem toIntSS_any (a : Option Addr) (len cap : Nat) (f : Nat → RowD) (w : World) (hl : len ≤ 1048576) (hml : ∀ j, j < len → (f j).n ≤ 1048576) (hI : IsRows 0 w.heap.size w a len f) :
    Calls Tryz.prog 54 #[.slice a len cap] w fun e w' => (∃ a', e = .returned (.slice a' len len) ∧ IsRows w.heap.size w'.heap.size w' a' len f) ∧ Below w.heap.size w w' := by
  obtain ⟨w1, hmk, hR, hB1, hs1⟩ := make_row 27 22 _ _ _ Tryz.underlying27 Tryz.infoRow (by omega) len hl w
  go_enter Tryz.func54, Tryz.ntmps54
  go_wp2
  go_loopw [4] (fun i wr => ∃ (k : Nat), k ≤ len ∧ i = .int .i64 k ∧ Room w.heap.size (len * 1) wr ∧ (∀ j, j < k → ∃ la lc, wr.cell? ⟨w.heap.size, j, none⟩ = some (.slice la (f j).n lc) ∧ IsInts (w.heap.size + 1) wr.heap.size wr la (f j).n (f j).s) ∧ Below w.heap.size w wr ∧ w.heap.size < wr.heap.size) (fun i _ => len - (intOf i).toNat)
  case atStart => exact ⟨0, Nat.zero_le _, rfl, hR, fun _ h => by omega, hB1, by omega⟩
  case round =>
    obtain ⟨k, hk, rfl, hRw, hall, hB, hsz⟩ := hrel
    by_cases hlt : k < len
    · obtain ⟨b, off, la, lc, rfl, _, hb, c0, hlg, hm'⟩ := (hI.below hB (Nat.le_refl _)) k hlt
      have hlg' : IsInts 0 wr.heap.size wr la (f k).n (f k).s := hlg.mono (Nat.le_refl _) hB.size
      go_wp2_with (go_at_call 9; refine (toIntS_any _ _ _ (f k).s _ (hml k hlt) hlg').mono ?_; rintro e w2 ⟨⟨a2, rfl, hI2⟩, hB2⟩; have hR2 := hRw.below hB2 hsz; obtain ⟨v0, hv0, hf0⟩ := hR2 k (by omega))
      go_roundw
      case rel =>
        refine ⟨k + 1, by omega, by go_num, hR2.set _ _, fun j hj => ?_, (hB.trans (hB2.mono hB.size)).setCell (p := ⟨w.heap.size, _, none⟩) (Nat.le_refl _) _, by have := hB2.size; simp; omega⟩
        by_cases e : j = k
        · subst e
          exact ⟨a2, (f j).n, cell_set_eq hR2 (by omega), (hI2.same (Same.set (by simpa using hsz))).mono hsz (by simp)⟩
        · obtain ⟨la', lc', h0, h5⟩ := hall j (by omega)
          exact ⟨la', lc', (cell_set_ne (by omega)).trans ((hB2.cell (p := ⟨w.heap.size, _, none⟩) hsz).trans h0), ((h5.below hB2 (Nat.le_refl _)).same (Same.set (by simp))).mono (Nat.le_refl _) (by have := hB2.size; simp; omega)⟩
      case measure => simp [intOf]; omega
    · obtain rfl : k = len := by omega
      go_wp2
      go_ret
      refine ⟨⟨_, rfl, fun j hj => ?_⟩, hB⟩
      obtain ⟨la', lc', h0, h5⟩ := hall j hj
      have := hml j hj
      exact ⟨_, 0, la', lc', rfl, Nat.le_refl _, hsz, by rw [Nat.zero_add]; exact h0, h5.mono (by omega) (Nat.le_refl _), by unfold maxLen; omega⟩

set_option maxHeartbeats 1000000 in
theorem toPlan_any (a : Option Addr) (len cap : Nat) (f : Nat → RowD) (w : World) (hl : len ≤ 1048576) (hml : ∀ j, j < len → (f j).n ≤ 1048576) (hI : IsRows 0 w.heap.size w a len f) :
    Calls Tryz.prog 25 #[.agg #[.slice a len cap]] w fun e w' => (∃ b, e = .returned (.agg #[.slice b len len]) ∧ IsRows w.heap.size w'.heap.size w' b len f) ∧ Below w.heap.size w w' := by
  go_enter Tryz.func25, Tryz.ntmps25
  go_wp2_with (go_at_call 54; refine (toIntSS_any _ _ _ f _ hl hml (hI.grow (b3 _ _ _ _))).mono ?_; rintro e w2 ⟨⟨b, rfl, hI2⟩, hB2⟩; obtain ⟨hc, hf⟩ := bcell hB2; have hz : w.heap.size + 2 < w2.heap.size := (by have := hB2.size; simp at this; omega))
  refine bodyPost_ret (v := .agg #[.slice b len len]) (by simp [results, Tryz.results25, go_sem, hc]) rfl ⟨⟨b, rfl, ?_⟩, ?_⟩
  · refine (((hI2.mono (m₁ := w.heap.size + 3) (by simp) (Nat.le_refl _)).same (Same.set (by simp))).same (Same.set (by simp))).mono (by omega) (by simp)
  · exact (((b3 _ _ _ _).trans (hB2.mono (by simp; omega))).setCell (p := ⟨w.heap.size + 1 + 1, _, none⟩) (by simp; omega) _).setCell (p := ⟨w.heap.size + 1, _, none⟩) (by simp) _

set_option maxHeartbeats 1000000 in
theorem eqIntSS_same (a b : Option Addr) (len cap cap' : Nat) (f : Nat → RowD) (w : World) (hl : len ≤ 1048576) (hml : ∀ j, j < len → (f j).n ≤ 1048576) (hI : IsRows 0 w.heap.size w a len f) (hJ : IsRows 0 w.heap.size w b len f) :
    Calls Tryz.prog 57 #[.slice a len cap, .slice b len cap'] w fun e w' => e = .returned (.bool true) ∧ Below w.heap.size w w' := by
  go_enter Tryz.func57, Tryz.ntmps57
  go_wp2
  go_loopw [5] (fun i wr => ∃ (k : Nat), k ≤ len ∧ i = .int .i64 k ∧ Below w.heap.size w wr) (fun i _ => len - (intOf i).toNat)
  case atStart => exact ⟨0, Nat.zero_le _, rfl, Below.refl _ _⟩
  case round =>
    obtain ⟨k, hk, rfl, hB⟩ := hrel
    by_cases hlt : k < len
    · obtain ⟨ba, oa, la, lac, rfl, _, hba, ca0, la5, _⟩ := (hI.below hB (Nat.le_refl _)) k hlt
      obtain ⟨bb, ob, lb, lbc, rfl, _, hbb, cb0, lb5, _⟩ := (hJ.below hB (Nat.le_refl _)) k hlt
      have la6 : IsInts 0 wr.drew.heap.size wr.drew la (f k).n (f k).s := la5.mono (Nat.le_refl _) hB.size
      have lb6 : IsInts 0 wr.drew.heap.size wr.drew lb (f k).n (f k).s := lb5.mono (Nat.le_refl _) hB.size
      have hlt' : (k : Int) < (len : Int) := by omega
      have hmk := hml k hlt
      go_wp2
      go_region_held3 (fun w' => w'.cell? ⟨ba, oa + k, none⟩ = some (.slice la (f k).n lac) ∧ w'.cell? ⟨bb, ob + k, none⟩ = some (.slice lb (f k).n lbc)) (first | go_keep | (go_split_ands; refine ⟨?_, ?_⟩ <;> exact cellLater hB2 (by assumption))) ((go_at_call 13; refine (eqIntS_same _ _ _ _ _ (f k).s _ hmk la6 lb6).mono ?_; rintro e w2 ⟨rfl, hB2⟩))
      go_wp2
      go_roundw
      case rel => exact ⟨k + 1, by omega, by go_num, Below.join hB.drew (Nat.le_refl _) hB2⟩
      case measure => simp [intOf]; omega
    · go_wp2
      go_ret
      exact ⟨rfl, hB⟩

theorem eqPlan_same (a b : Option Addr) (len cap cap' : Nat) (f : Nat → RowD) (w : World) (hl : len ≤ 1048576) (hml : ∀ j, j < len → (f j).n ≤ 1048576) (hI : IsRows 0 w.heap.size w a len f) (hJ : IsRows 0 w.heap.size w b len f) :
    Calls Tryz.prog 27 #[.agg #[.slice a len cap], .agg #[.slice b len cap']] w fun e w' => e = .returned (.bool true) ∧ Below w.heap.size w w' := by
  go_enter Tryz.func27, Tryz.ntmps27
  go_wp2_with (go_at_call 57; refine (eqIntSS_same _ _ _ _ _ f _ hl hml (hI.grow (b2 _ _ _)) (hJ.grow (b2 _ _ _))).mono ?_; rintro e w2 ⟨rfl, hB2⟩)
  go_ret
  exact ⟨rfl, Below.join (b2 _ _ _) (Nat.le_refl _) hB2⟩
end Go.Proofs.YthnlkpifafklkaaGreatDoor
