/-
  The laws' own copies of an argument: new memory that holds the same; nothing that lay has turned.
-/
import Derived.Test.YthnlkpifafklkaaGreatDoorBase
namespace Go.Proofs.YthnlkpifafklkaaGreatDoor
open Go.RowKit

/-- block B has m places, none of them frozen -/
def Room (B m : Nat) (W : World) : Prop := ∀ i, i < m → ∃ v, W.cell? ⟨B, i, none⟩ = some v ∧ W.frozen? ⟨B, i, none⟩ = false
theorem Room.set {B m : Nat} {W : World} (h : Room B m W) (p : Addr) (x : Value) : Room B m (W.setCell p x) := fun i hi => by
  obtain ⟨v, hv, hf⟩ := h i hi
  obtain ⟨v', hv'⟩ := cell?_setCell_some (w := W) (p := p) (x := x) hv
  exact ⟨v', hv', by rw [World.frozen?_setCell]; exact hf⟩
theorem Room.below {B m n : Nat} {W W' : World} (h : Room B m W) (hb : Below n W W') (hB : B < n) : Room B m W' := fun i hi => by
  obtain ⟨v, hv, hf⟩ := h i hi
  exact ⟨v, (hb.cell (p := ⟨B, i, none⟩) hB).trans hv, (hb.frozen (p := ⟨B, i, none⟩) hB).trans hf⟩
theorem Room.made (w : World) (z : Array Value) (n : Nat) (t : TypeId) : Room w.heap.size n (w.alloc (.cells (madeCells z n) t)) := fun i hi => by
  have hs := size_madeCells z n
  exact ⟨(madeCells z n)[i]'(by omega), by rw [World.cell?_alloc_new]; exact Array.getElem?_eq_getElem (by omega), by simp⟩
theorem Room.lit (w : World) (c : Array Value) (t : TypeId) (m : Nat) (hm : m ≤ c.size) : Room w.heap.size m (w.alloc (.cells c t)) := fun i hi =>
  ⟨c[i]'(by omega), by rw [World.cell?_alloc_new]; exact Array.getElem?_eq_getElem (by omega), by simp⟩
theorem Room.mid (w : World) (o : Obj) (c : Array Value) (t : TypeId) (o' : Obj) (m : Nat) (hm : m ≤ c.size) : Room (w.heap.size + 1) m (((w.alloc o).alloc (.cells c t)).alloc o') := by
  have h := (Room.lit (w.alloc o) c t m hm).below (b1 _ o') (by simp)
  rwa [World.size_alloc] at h
theorem cell_set_ne {W : World} {B i j : Nat} {x : Value} (h : i ≠ j) : (W.setCell ⟨B, i, none⟩ x).cell? ⟨B, j, none⟩ = W.cell? ⟨B, j, none⟩ :=
  World.cell?_setCell_other _ _ _ _ (by intro e; cases e; exact h rfl)
theorem cell_set_eq {W : World} {B i m : Nat} {x : Value} (h : Room B m W) (hi : i < m) : (W.setCell ⟨B, i, none⟩ x).cell? ⟨B, i, none⟩ = some x := by
  obtain ⟨v, hv, _⟩ := h i hi
  exact World.cell?_setCell_same _ _ _ hv

theorem Tryz.infoInt : (Tryz.prog.info? 3).map (fun i => (i.zero, i.size, i.bytes)) = some (some (.int .i64 0), 1, 8) := by kernel_rfl
theorem Tryz.infoLeg : (Tryz.prog.info? 96).map (fun i => (i.zero, i.size, i.bytes)) = some (some (.agg #[.int .i64 0, .int .i64 0, .int .i64 0]), 3, 24) := by kernel_rfl
theorem Tryz.infoTrain : (Tryz.prog.info? 90).map (fun i => (i.zero, i.size, i.bytes)) = some (some (.agg #[.int .i64 0, .int .i64 0, .int .i64 0, .int .i64 0, .slice none 0 0]), 5, 56) := by kernel_rfl

theorem make_row (t e : TypeId) (z : Value) (sz by_ : Nat) (ht : Tryz.prog.underlying t = some (.slice e)) (hinfo : (Tryz.prog.info? e).map (fun i => (i.zero, i.size, i.bytes)) = some (some z, sz, by_)) (hby : by_ ≤ 56) (len : Nat) (hl : len ≤ 1048576) (w : World) :
    ∃ w', (Instr.makeSlice t (.int .i64 (len : Int)) (.int .i64 (len : Int))).run Tryz.prog w = .ok (.slice (some ⟨w.heap.size, 0, none⟩) len len) w' ∧ Room w.heap.size (len * sz) w' ∧ Below w.heap.size w w' ∧ w'.heap.size = w.heap.size + 1 := by
  obtain ⟨i0, hi, hz0, hz1, hz2⟩ := info_parts hinfo
  have hm : i0.bytes * len ≤ 56 * 1048576 := by rw [hz2]; exact Nat.mul_le_mul hby hl
  have hm2 : (i0.bytes : Int) * (len : Int) ≤ 281474976710656 := by
    have h3 : ((i0.bytes * len : Nat) : Int) ≤ 56 * 1048576 := by omega
    rw [Int.natCast_mul] at h3; omega
  have hr := run_make (P := Tryz.prog) w t e i0 z ht hi hz0 .i64 .i64 (len : Int) (len : Int) (by omega) (by omega) hm2 (by omega)
  rw [Int.toNat_natCast] at hr
  exact ⟨_, hr, by rw [hz1]; exact Room.made _ _ _ _, (Below.refl _ _).alloc (Nat.le_refl _) _, by simp⟩

set_option maxHeartbeats 1000000 in
theorem toIntS_any (a : Option Addr) (len cap : Nat) (f : Nat → Int) (w : World) (hl : len ≤ 1048576) (hI : IsInts 0 w.heap.size w a len f) :
    Calls Tryz.prog 9 #[.slice a len cap] w fun e w' => (∃ a', e = .returned (.slice a' len len) ∧ IsInts w.heap.size w'.heap.size w' a' len f) ∧ Below w.heap.size w w' := by
  obtain ⟨w1, hmk, hR, hB1, hs1⟩ := make_row 22 3 _ _ _ Tryz.underlying22 Tryz.infoInt (by omega) len hl w
  go_enter Tryz.func9, Tryz.ntmps9
  go_wp2
  go_loopw [4] (fun i wr => ∃ (k : Nat), k ≤ len ∧ i = .int .i64 k ∧ Room w.heap.size (len * 1) wr ∧ (∀ j, j < k → wr.cell? ⟨w.heap.size, j, none⟩ = some (.int .i64 (f j))) ∧ Below w.heap.size w wr ∧ w.heap.size < wr.heap.size) (fun i _ => len - (intOf i).toNat)
  case atStart => exact ⟨0, Nat.zero_le _, rfl, hR, fun _ h => by omega, hB1, by omega⟩
  case round =>
    obtain ⟨k, hk, rfl, hRw, hall, hB, hsz⟩ := hrel
    by_cases hlt : k < len
    · obtain ⟨b, off, rfl, _, hb, c0⟩ := (hI.below hB (Nat.le_refl _)) k hlt
      obtain ⟨v, hv, hf⟩ := hRw k (by omega)
      go_wp2
      go_roundw
      case rel =>
        refine ⟨k + 1, by omega, by go_num, hRw.set _ _, fun j hj => ?_, hB.setCell (p := ⟨w.heap.size, k, none⟩) (Nat.le_refl _) _, by simpa using hsz⟩
        by_cases e : j = k
        · subst e; exact cell_set_eq hRw (by omega)
        · rw [cell_set_ne (by omega)]; exact hall j (by omega)
      case measure => simp [intOf]; omega
    · obtain rfl : k = len := by omega
      go_wp2
      go_ret
      exact ⟨⟨_, rfl, fun j hj => ⟨_, 0, rfl, Nat.le_refl _, hsz, by rw [Nat.zero_add]; exact hall j hj⟩⟩, hB⟩

/-- what three stores side by side leave -/
theorem cells3 {W : World} {B m i : Nat} {x y z : Value} (h : Room B m W) (hi : i + 2 < m) :
    (((W.setCell ⟨B, i, none⟩ x).setCell ⟨B, i + 1, none⟩ y).setCell ⟨B, i + 2, none⟩ z).cell? ⟨B, i, none⟩ = some x ∧ (((W.setCell ⟨B, i, none⟩ x).setCell ⟨B, i + 1, none⟩ y).setCell ⟨B, i + 2, none⟩ z).cell? ⟨B, i + 1, none⟩ = some y ∧
    (((W.setCell ⟨B, i, none⟩ x).setCell ⟨B, i + 1, none⟩ y).setCell ⟨B, i + 2, none⟩ z).cell? ⟨B, i + 2, none⟩ = some z := by
  refine ⟨?_, ?_, ?_⟩
  · rw [cell_set_ne (by omega), cell_set_ne (by omega)]; exact cell_set_eq h (by omega)
  · rw [cell_set_ne (by omega)]; exact cell_set_eq (h.set _ _) (by omega)
  · exact cell_set_eq ((h.set _ _).set _ _) (by omega)
theorem cells3_old {W : World} {B i j : Nat} {x y z : Value} (hj : j < i) :
    (((W.setCell ⟨B, i, none⟩ x).setCell ⟨B, i + 1, none⟩ y).setCell ⟨B, i + 2, none⟩ z).cell? ⟨B, j, none⟩ = W.cell? ⟨B, j, none⟩ := by
  rw [cell_set_ne (by omega), cell_set_ne (by omega), cell_set_ne (by omega)]

theorem toLeg_any (x y z : Int) (w : World) :
    Calls Tryz.prog 118 #[.agg #[.int .i64 x, .int .i64 y, .int .i64 z]] w fun e w' => e = .returned (.agg #[.int .i64 x, .int .i64 y, .int .i64 z]) ∧ Below w.heap.size w w' := by
  go_enter Tryz.func118, Tryz.ntmps118
  go_wp2
  exact bodyPost_ret (v := .agg #[.int .i64 x, .int .i64 y, .int .i64 z]) (by simp [results, Tryz.results118, go_sem]) rfl ⟨rfl, (((Below.refl _ _).alloc (Nat.le_refl _) _).alloc (by simp) _).alloc (by simp; omega) _⟩

set_option maxHeartbeats 1000000 in
theorem toLegS_any (a : Option Addr) (len cap : Nat) (f : Nat → LegD) (w : World) (hl : len ≤ 1048576) (hI : IsLegs 0 w.heap.size w a len f) :
    Calls Tryz.prog 95 #[.slice a len cap] w fun e w' => (∃ a', e = .returned (.slice a' len len) ∧ IsLegs w.heap.size w'.heap.size w' a' len f) ∧ Below w.heap.size w w' := by
  obtain ⟨w1, hmk, hR, hB1, hs1⟩ := make_row 88 96 _ _ _ Tryz.underlying88 Tryz.infoLeg (by omega) len hl w
  go_enter Tryz.func95, Tryz.ntmps95
  go_wp2
  go_loopw [4] (fun i wr => ∃ (k : Nat), k ≤ len ∧ i = .int .i64 k ∧ Room w.heap.size (len * 3) wr ∧ (∀ j, j < k → wr.cell? ⟨w.heap.size, j * 3, none⟩ = some (.int .i64 (f j).to) ∧ wr.cell? ⟨w.heap.size, j * 3 + 1, none⟩ = some (.int .i64 (f j).run) ∧ wr.cell? ⟨w.heap.size, j * 3 + 2, none⟩ = some (.int .i64 (f j).stay)) ∧ Below w.heap.size w wr ∧ w.heap.size < wr.heap.size) (fun i _ => len - (intOf i).toNat)
  case atStart => exact ⟨0, Nat.zero_le _, rfl, hR, fun _ h => by omega, hB1, by omega⟩
  case round =>
    obtain ⟨k, hk, rfl, hRw, hall, hB, hsz⟩ := hrel
    by_cases hlt : k < len
    · obtain ⟨b, off, rfl, _, hb, c0, c1, c2⟩ := (hI.below hB (Nat.le_refl _)) k hlt
      go_wp2_with (go_at_call 118; refine (toLeg_any _ _ _ _).mono ?_; rintro e w2 ⟨rfl, hB2⟩; have hR2 := hRw.below hB2 hsz; obtain ⟨v0, hv0, hf0⟩ := hR2 (k * 3) (by omega); obtain ⟨v1, hv1, hf1⟩ := hR2 (k * 3 + 1) (by omega); obtain ⟨v2, hv2, hf2⟩ := hR2 (k * 3 + 2) (by omega))
      go_roundw
      case rel =>
        refine ⟨k + 1, by omega, by go_num, ((hR2.set _ _).set _ _).set _ _, fun j hj => ?_, (((hB.trans (hB2.mono hB.size)).setCell (p := ⟨w.heap.size, _, none⟩) (Nat.le_refl _) _).setCell (p := ⟨w.heap.size, _, none⟩) (Nat.le_refl _) _).setCell (p := ⟨w.heap.size, _, none⟩) (Nat.le_refl _) _, by have := hB2.size; simp; omega⟩
        by_cases e : j = k
        · subst e; exact cells3 hR2 (by omega)
        · obtain ⟨h0, h1, h2⟩ := hall j (by omega)
          rw [cells3_old (by omega), cells3_old (by omega), cells3_old (by omega)]
          exact ⟨(hB2.cell (p := ⟨w.heap.size, _, none⟩) hsz).trans h0, (hB2.cell (p := ⟨w.heap.size, _, none⟩) hsz).trans h1, (hB2.cell (p := ⟨w.heap.size, _, none⟩) hsz).trans h2⟩
      case measure => simp [intOf]; omega
    · obtain rfl : k = len := by omega
      go_wp2
      go_ret
      exact ⟨⟨_, rfl, fun j hj => ⟨_, 0, rfl, Nat.le_refl _, hsz, by rw [Nat.zero_add]; exact hall j hj⟩⟩, hB⟩

set_option maxHeartbeats 1000000 in
theorem toTrain_any (x0 x1 x2 x3 : Int) (a : Option Addr) (len cap : Nat) (f : Nat → LegD) (w : World) (hl : len ≤ 1048576) (hI : IsLegs 0 w.heap.size w a len f) :
    Calls Tryz.prog 62 #[.agg #[.int .i64 x0, .int .i64 x1, .int .i64 x2, .int .i64 x3, .slice a len cap]] w fun e w' => (∃ a', e = .returned (.agg #[.int .i64 x0, .int .i64 x1, .int .i64 x2, .int .i64 x3, .slice a' len len]) ∧ IsLegs w.heap.size w'.heap.size w' a' len f) ∧ Below w.heap.size w w' := by
  go_enter Tryz.func62, Tryz.ntmps62
  go_wp2_with (go_at_call 95; refine (toLegS_any _ _ _ f _ hl (hI.grow (b3 _ _ _ _))).mono ?_; rintro e w2 ⟨⟨a', rfl, hI2⟩, hB2⟩; obtain ⟨hc, hf⟩ := bcell hB2; have hz : w.heap.size + 2 < w2.heap.size := (by have := hB2.size; simp at this; omega))
  refine bodyPost_ret (v := .agg #[.int .i64 x0, .int .i64 x1, .int .i64 x2, .int .i64 x3, .slice a' len len]) (by simp [results, Tryz.results62, go_sem, hc]) rfl ⟨⟨a', rfl, ?_⟩, ?_⟩
  · refine ((((((hI2.mono (m₁ := w.heap.size + 3) (by simp) (Nat.le_refl _)).same (Same.set (by simp))).same (Same.set (by simp))).same (Same.set (by simp))).same (Same.set (by simp))).same (Same.set (by simp))).same (Same.set (by simp)) |>.mono (by omega) (by simp)
  · exact ((((((((b3 _ _ _ _).trans (hB2.mono (by simp; omega))).setCell (p := ⟨w.heap.size + 1 + 1, _, none⟩) (by simp; omega) _).setCell (p := ⟨w.heap.size + 1, _, none⟩) (by simp) _).setCell (p := ⟨w.heap.size + 1, _, none⟩) (by simp) _).setCell (p := ⟨w.heap.size + 1, _, none⟩) (by simp) _).setCell (p := ⟨w.heap.size + 1, _, none⟩) (by simp) _).setCell (p := ⟨w.heap.size + 1, _, none⟩) (by simp) _)

def st5 (W : World) (B i : Nat) (x0 x1 x2 x3 x4 : Value) : World := ((((W.setCell ⟨B, i, none⟩ x0).setCell ⟨B, i + 1, none⟩ x1).setCell ⟨B, i + 2, none⟩ x2).setCell ⟨B, i + 3, none⟩ x3).setCell ⟨B, i + 4, none⟩ x4
theorem cells5 {W : World} {B m i : Nat} {x0 x1 x2 x3 x4 : Value} (h : Room B m W) (hi : i + 4 < m) :
    (st5 W B i x0 x1 x2 x3 x4).cell? ⟨B, i, none⟩ = some x0 ∧ (st5 W B i x0 x1 x2 x3 x4).cell? ⟨B, i + 1, none⟩ = some x1 ∧ (st5 W B i x0 x1 x2 x3 x4).cell? ⟨B, i + 2, none⟩ = some x2 ∧ (st5 W B i x0 x1 x2 x3 x4).cell? ⟨B, i + 3, none⟩ = some x3 ∧ (st5 W B i x0 x1 x2 x3 x4).cell? ⟨B, i + 4, none⟩ = some x4 := by
  unfold st5
  refine ⟨?_, ?_, ?_, ?_, ?_⟩
  · rw [cell_set_ne (by omega), cell_set_ne (by omega), cell_set_ne (by omega), cell_set_ne (by omega)]; exact cell_set_eq h (by omega)
  · rw [cell_set_ne (by omega), cell_set_ne (by omega), cell_set_ne (by omega)]; exact cell_set_eq (h.set _ _) (by omega)
  · rw [cell_set_ne (by omega), cell_set_ne (by omega)]; exact cell_set_eq ((h.set _ _).set _ _) (by omega)
  · rw [cell_set_ne (by omega)]; exact cell_set_eq (((h.set _ _).set _ _).set _ _) (by omega)
  · exact cell_set_eq ((((h.set _ _).set _ _).set _ _).set _ _) (by omega)
theorem cells5_old {W : World} {B i j : Nat} {x0 x1 x2 x3 x4 : Value} (hj : j < i) : (st5 W B i x0 x1 x2 x3 x4).cell? ⟨B, j, none⟩ = W.cell? ⟨B, j, none⟩ := by
  unfold st5
  rw [cell_set_ne (by omega), cell_set_ne (by omega), cell_set_ne (by omega), cell_set_ne (by omega), cell_set_ne (by omega)]
theorem same5 {m₀ n₀ : Nat} {W : World} {B i : Nat} {x0 x1 x2 x3 x4 : Value} (h : B < m₀) : Same m₀ n₀ W (st5 W B i x0 x1 x2 x3 x4) :=
  ((((Same.set h).trans (Same.set h)).trans (Same.set h)).trans (Same.set h)).trans (Same.set h)
theorem below5 {n : Nat} {w W : World} {B i : Nat} {x0 x1 x2 x3 x4 : Value} (h : Below n w W) (hn : n ≤ B) : Below n w (st5 W B i x0 x1 x2 x3 x4) :=
  ((((h.setCell (p := ⟨B, _, none⟩) hn _).setCell (p := ⟨B, _, none⟩) hn _).setCell (p := ⟨B, _, none⟩) hn _).setCell (p := ⟨B, _, none⟩) hn _).setCell (p := ⟨B, _, none⟩) hn _
theorem size5 {W : World} {B i : Nat} {x0 x1 x2 x3 x4 : Value} : (st5 W B i x0 x1 x2 x3 x4).heap.size = W.heap.size := by simp [st5]

set_option maxHeartbeats 2000000 in
theorem toTrainS_any (a : Option Addr) (len cap : Nat) (f : Nat → TrainD) (w : World) (hl : len ≤ 1048576) (hml : ∀ j, j < len → (f j).nl ≤ 1048576) (hI : IsTrains 0 w.heap.size w a len f) :
    Calls Tryz.prog 35 #[.slice a len cap] w fun e w' => (∃ a', e = .returned (.slice a' len len) ∧ IsTrains w.heap.size w'.heap.size w' a' len f) ∧ Below w.heap.size w w' := by
  obtain ⟨w1, hmk, hR, hB1, hs1⟩ := make_row 33 90 _ _ _ Tryz.underlying33 Tryz.infoTrain (by omega) len hl w
  go_enter Tryz.func35, Tryz.ntmps35
  go_wp2
  go_loopw [4] (fun i wr => ∃ (k : Nat), k ≤ len ∧ i = .int .i64 k ∧ Room w.heap.size (len * 5) wr ∧ (∀ j, j < k → ∃ la lc, wr.cell? ⟨w.heap.size, j * 5, none⟩ = some (.int .i64 (f j).frm) ∧ wr.cell? ⟨w.heap.size, j * 5 + 1, none⟩ = some (.int .i64 (f j).ready) ∧ wr.cell? ⟨w.heap.size, j * 5 + 2, none⟩ = some (.int .i64 (f j).due) ∧ wr.cell? ⟨w.heap.size, j * 5 + 3, none⟩ = some (.int .i64 (f j).weight) ∧ wr.cell? ⟨w.heap.size, j * 5 + 4, none⟩ = some (.slice la (f j).nl lc) ∧ IsLegs (w.heap.size + 1) wr.heap.size wr la (f j).nl (f j).leg) ∧ Below w.heap.size w wr ∧ w.heap.size < wr.heap.size) (fun i _ => len - (intOf i).toNat)
  case atStart => exact ⟨0, Nat.zero_le _, rfl, hR, fun _ h => by omega, hB1, by omega⟩
  case round =>
    obtain ⟨k, hk, rfl, hRw, hall, hB, hsz⟩ := hrel
    by_cases hlt : k < len
    · obtain ⟨b, off, la, lc, rfl, _, hb, c0, c1, c2, c3, c4, hlg, hm'⟩ := (hI.below hB (Nat.le_refl _)) k hlt
      have hlg' : IsLegs 0 wr.heap.size wr la (f k).nl (f k).leg := hlg.mono (Nat.le_refl _) hB.size
      go_wp2_with (go_at_call 62; refine (toTrain_any _ _ _ _ _ _ _ (f k).leg _ (hml k hlt) hlg').mono ?_; rintro e w2 ⟨⟨a2, rfl, hI2⟩, hB2⟩; have hR2 := hRw.below hB2 hsz; obtain ⟨v0, hv0, hf0⟩ := hR2 (k * 5) (by omega); obtain ⟨v1, hv1, hf1⟩ := hR2 (k * 5 + 1) (by omega); obtain ⟨v2, hv2, hf2⟩ := hR2 (k * 5 + 2) (by omega); obtain ⟨v3, hv3, hf3⟩ := hR2 (k * 5 + 3) (by omega); obtain ⟨v4, hv4, hf4⟩ := hR2 (k * 5 + 4) (by omega))
      go_roundw
      case rel =>
        refine ⟨k + 1, by omega, by go_num, ((((hR2.set _ _).set _ _).set _ _).set _ _).set _ _, fun j hj => ?_, below5 (hB.trans (hB2.mono hB.size)) (Nat.le_refl _), by have := hB2.size; simp; omega⟩
        show ∃ la lc, (st5 w2 w.heap.size (k * 5) _ _ _ _ _).cell? _ = _ ∧ _
        by_cases e : j = k
        · subst e
          obtain ⟨e0, e1, e2, e3, e4⟩ := cells5 hR2 (i := j * 5) (x0 := .int .i64 (f j).frm) (x1 := .int .i64 (f j).ready) (x2 := .int .i64 (f j).due) (x3 := .int .i64 (f j).weight) (x4 := .slice a2 (f j).nl (f j).nl) (by omega)
          exact ⟨a2, (f j).nl, e0, e1, e2, e3, e4, ((hI2.same (same5 hsz)).mono hsz (Nat.le_of_eq size5.symm))⟩
        · obtain ⟨la', lc', h0, h1, h2, h3, h4, h5⟩ := hall j (by omega)
          refine ⟨la', lc', ?_, ?_, ?_, ?_, ?_, ((h5.below hB2 (Nat.le_refl _)).same (same5 (Nat.lt_succ_self _))).mono (Nat.le_refl _) (by have := hB2.size; simp; omega)⟩
          · exact (cells5_old (by omega)).trans ((hB2.cell (p := ⟨w.heap.size, _, none⟩) hsz).trans h0)
          · exact (cells5_old (by omega)).trans ((hB2.cell (p := ⟨w.heap.size, _, none⟩) hsz).trans h1)
          · exact (cells5_old (by omega)).trans ((hB2.cell (p := ⟨w.heap.size, _, none⟩) hsz).trans h2)
          · exact (cells5_old (by omega)).trans ((hB2.cell (p := ⟨w.heap.size, _, none⟩) hsz).trans h3)
          · exact (cells5_old (by omega)).trans ((hB2.cell (p := ⟨w.heap.size, _, none⟩) hsz).trans h4)
      case measure => simp [intOf]; omega
    · obtain rfl : k = len := by omega
      go_wp2
      go_ret
      refine ⟨⟨_, rfl, fun j hj => ?_⟩, hB⟩
      obtain ⟨la', lc', h0, h1, h2, h3, h4, h5⟩ := hall j hj
      have := hml j hj
      exact ⟨_, 0, la', lc', rfl, Nat.le_refl _, hsz, by rw [Nat.zero_add]; exact h0, by rw [Nat.zero_add]; exact h1, by rw [Nat.zero_add]; exact h2, by rw [Nat.zero_add]; exact h3, by rw [Nat.zero_add]; exact h4, h5.mono (by omega) (Nat.le_refl _), by unfold maxLen; omega⟩

set_option maxHeartbeats 2000000 in
theorem toLine_any (a : Option Addr) (len cap : Nat) (g : Nat → Int) (gap : Int) (a' : Option Addr) (len' cap' : Nat) (f : Nat → TrainD) (w : World) (hl : len ≤ 1048576) (hl' : len' ≤ 1048576) (hml : ∀ j, j < len' → (f j).nl ≤ 1048576)
    (hI : IsInts 0 w.heap.size w a len g) (hT : IsTrains 0 w.heap.size w a' len' f) :
    Calls Tryz.prog 8 #[.agg #[.slice a len cap, .int .i64 gap, .slice a' len' cap']] w fun e w' => (∃ b b', e = .returned (.agg #[.slice b len len, .int .i64 gap, .slice b' len' len']) ∧ IsInts w.heap.size w'.heap.size w' b len g ∧ IsTrains w.heap.size w'.heap.size w' b' len' f) ∧ Below w.heap.size w w' := by
  go_enter Tryz.func8, Tryz.ntmps8
  go_wp2_with (first | (go_at_call 9; refine (toIntS_any _ _ _ g _ hl (hI.grow (b3 _ _ _ _))).mono ?_; rintro e w2 ⟨⟨b, rfl, hI2⟩, hB2⟩; obtain ⟨hc, hf⟩ := bcell hB2; have hz : w.heap.size + 2 < w2.heap.size := (by have := hB2.size; simp at this; omega); have hR2 := (Room.mid w (.cells #[.slice a len cap, .int .i64 gap, .slice a' len' cap'] 25) #[.slice none 0 0, .int .i64 0, .slice none 0 0] 35 _ 3 (Nat.le_refl _)).below hB2 (by simp only [World.size_alloc]; omega); have hBx : Below w.heap.size w w2 := (b3 _ _ _ _).trans (hB2.mono (by simp; omega))) | (go_at_call 35; refine (toTrainS_any _ _ _ f _ hl' hml (hT.grow ((hBx.setCell (p := ⟨w.heap.size + 1 + 1, _, none⟩) (by simp; omega) _).setCell (p := ⟨w.heap.size + 1 + 1, _, none⟩) (by simp; omega) _))).mono ?_; rintro e w3 ⟨⟨b', rfl, hT3⟩, hB3⟩; have hR3 := ((hR2.set _ _).set _ _).below hB3 (by simp only [World.size_setCell]; omega); obtain ⟨v0, hv0, hf0⟩ := hR3 0 (by omega); obtain ⟨v1, hv1, hf1⟩ := hR3 1 (by omega); obtain ⟨v2, hv2, hf2⟩ := hR3 2 (by omega); clear hR3; obtain ⟨hc3, hf3⟩ := bcell hB3; have hz3 : w.heap.size + 2 < w3.heap.size := (by have := hB3.size; simp at this; omega)))
  refine bodyPost_ret (v := .agg #[.slice b len len, .int .i64 gap, .slice b' len' len']) (by simp [results, Tryz.results8, go_sem, hv0, hv1, hv2]) rfl ⟨⟨b, b', rfl, ?_, ?_⟩, ?_⟩
  · refine (((((((((hI2.mono (m₁ := w.heap.size + 3) (by simp) (Nat.le_refl _)).same (Same.set (by simp))).same (Same.set (by simp))).below hB3 (by simp)).same (Same.set (by simp))).same (Same.set (by simp))).same (Same.set (by simp))).same (Same.set (by simp))).mono (by omega) (by have := hB3.size; simp at this ⊢; omega))
  · refine ((((((hT3.mono (m₁ := w.heap.size + 3) (by simp; omega) (Nat.le_refl _)).same (Same.set (by simp))).same (Same.set (by simp))).same (Same.set (by simp))).same (Same.set (by simp))).mono (by omega) (by simp))
  · exact (((((((hBx.setCell (p := ⟨w.heap.size + 1 + 1, _, none⟩) (by simp; omega) _).setCell (p := ⟨w.heap.size + 1 + 1, _, none⟩) (by simp; omega) _).trans (hB3.mono (by simp; omega))).setCell (p := ⟨w.heap.size + 1 + 1, _, none⟩) (by simp; omega) _).setCell (p := ⟨w.heap.size + 1, _, none⟩) (by simp) _).setCell (p := ⟨w.heap.size + 1, _, none⟩) (by simp) _).setCell (p := ⟨w.heap.size + 1, _, none⟩) (by simp) _)
end Go.Proofs.YthnlkpifafklkaaGreatDoor
