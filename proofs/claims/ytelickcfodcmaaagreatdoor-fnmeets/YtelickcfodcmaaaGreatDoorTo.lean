/-
  The laws' own copies of an argument: new memory that holds the same; nothing that lay has turned.
-/
import Derived.Test.YtelickcfodcmaaaGreatDoorBase
namespace Go.Proofs.YtelickcfodcmaaaGreatDoor
open Go.RowKit

/-- block B has m places, none of them frozen -/
def Room (B m : Nat) (W : World) : Prop := ∀ i, i < m → ∃ v, W.cell? ⟨B, i, none⟩ = some v ∧ W.frozen? ⟨B, i, none⟩ = false
theorem Room.set {B m : Nat} {W : World} (h : Room B m W) (p : Addr) (x : Value) : Room B m (W.setCell p x) := fun i hi => by
  obtain ⟨v, hv, hf⟩ := h i hi
  obtain ⟨v', hv'⟩ := cell?_setCell_some (w := W) (p := p) (x := x) hv
  exact ⟨v', hv', by rw [World.frozen?_setCell]; exact hf⟩
theorem Room.below {B m n : Nat} {W W' : World} (h : Room B m W) (hb : Below n W W') (hB : B < n) : Room B m W' := fun i hi => by
  obtain ⟨v, hv, hf⟩ := h i hi
  exact ⟨v, (hb.cell (p := ⟨B, i, none⟩) hB).trans hv, (hb.frozen (p := ⟨B, i, none⟩) hB).trans hf⟩
theorem Room.made (w : World) (z : Array Value) (n : Nat) (t : TypeId) : Room w.heap.size n (w.alloc (.cells (madeCells z n) t)) := fun i hi => by
  have hs := size_madeCells z n
  exact ⟨(madeCells z n)[i]'(by omega), by rw [World.cell?_alloc_new]; exact Array.getElem?_eq_getElem (by omega), by simp⟩
theorem Room.lit (w : World) (c : Array Value) (t : TypeId) (m : Nat) (hm : m ≤ c.size) : Room w.heap.size m (w.alloc (.cells c t)) := fun i hi =>
  ⟨c[i]'(by omega), by rw [World.cell?_alloc_new]; exact Array.getElem?_eq_getElem (by omega), by simp⟩
theorem Room.mid (w : World) (o : Obj) (c : Array Value) (t : TypeId) (o' : Obj) (m : Nat) (hm : m ≤ c.size) : Room (w.heap.size + 1) m (((w.alloc o).alloc (.cells c t)).alloc o') := by
  have h := (Room.lit (w.alloc o) c t m hm).below (b1 _ o') (by simp)
  rwa [World.size_alloc] at h
theorem cell_set_ne {W : World} {B i j : Nat} {x : Value} (h : i ≠ j) : (W.setCell ⟨B, i, none⟩ x).cell? ⟨B, j, none⟩ = W.cell? ⟨B, j, none⟩ :=
  World.cell?_setCell_other _ _ _ _ (by intro e; cases e; exact h rfl)
theorem cell_set_eq {W : World} {B i m : Nat} {x : Value} (h : Room B m W) (hi : i < m) : (W.setCell ⟨B, i, none⟩ x).cell? ⟨B, i, none⟩ = some x := by
  obtain ⟨v, hv, _⟩ := h i hi
  exact World.cell?_setCell_same _ _ _ hv

theorem Tryz.infoInt : (Tryz.prog.info? 3).map (fun i => (i.zero, i.size, i.bytes)) = some (some (.int .i64 0), 1, 8) := by kernel_rfl
theorem Tryz.infoLeg : (Tryz.prog.info? 74).map (fun i => (i.zero, i.size, i.bytes)) = some (some (.agg #[.int .i64 0, .int .i64 0, .int .i64 0]), 3, 24) := by kernel_rfl
theorem Tryz.infoTrain : (Tryz.prog.info? 72).map (fun i => (i.zero, i.size, i.bytes)) = some (some (.agg #[.int .i64 0, .int .i64 0, .int .i64 0, .int .i64 0, .slice none 0 0]), 5, 56) := by kernel_rfl

theorem make_row (t e : TypeId) (z : Value) (sz by_ : Nat) (ht : Tryz.prog.underlying t = some (.slice e)) (hinfo : (Tryz.prog.info? e).map (fun i => (i.zero, i.size, i.bytes)) = some (some z, sz, by_)) (hby : by_ ≤ 56) (len : Nat) (hl : len ≤ 1048576) (w : World) :
    ∃ w', (Instr.makeSlice t (.int .i64 (len : Int)) (.int .i64 (len : Int))).run Tryz.prog w = .ok (.slice (some ⟨w.heap.size, 0, none⟩) len len) w' ∧ Room w.heap.size (len * sz) w' ∧ Below w.heap.size w w' ∧ w'.heap.size = w.heap.size + 1 := by
  obtain ⟨i0, hi, hz0, hz1, hz2⟩ := info_parts hinfo
  have hm : i0.bytes * len ≤ 56 * 1048576 := by rw [hz2]; exact Nat.mul_le_mul hby hl
  have hm2 : (i0.bytes : Int) * (len : Int) ≤ 281474976710656 := by
    have h3 : ((i0.bytes * len : Nat) : Int) ≤ 56 * 1048576 := by omega
    rw [Int.natCast_mul] at h3; omega
  have hr := run_make (P := Tryz.prog) w t e i0 z ht hi hz0 .i64 .i64 (len : Int) (len : Int) (by omega) (by omega) hm2 (by omega)
  rw [Int.toNat_natCast] at hr
  exact ⟨_, hr, by rw [hz1]; exact Room.made _ _ _ _, (Below.refl _ _).alloc (Nat.le_refl _) _, by simp⟩

/-- what three stores side by side leave -/
theorem cells3 {W : World} {B m i : Nat} {x y z : Value} (h : Room B m W) (hi : i + 2 < m) :
    (((W.setCell ⟨B, i, none⟩ x).setCell ⟨B, i + 1, none⟩ y).setCell ⟨B, i + 2, none⟩ z).cell? ⟨B, i, none⟩ = some x ∧ (((W.setCell ⟨B, i, none⟩ x).setCell ⟨B, i + 1, none⟩ y).setCell ⟨B, i + 2, none⟩ z).cell? ⟨B, i + 1, none⟩ = some y ∧
    (((W.setCell ⟨B, i, none⟩ x).setCell ⟨B, i + 1, none⟩ y).setCell ⟨B, i + 2, none⟩ z).cell? ⟨B, i + 2, none⟩ = some z := by
  refine ⟨?_, ?_, ?_⟩
  · rw [cell_set_ne (by omega), cell_set_ne (by omega)]; exact cell_set_eq h (by omega)
  · rw [cell_set_ne (by omega)]; exact cell_set_eq (h.set _ _) (by omega)
  · exact cell_set_eq ((h.set _ _).set _ _) (by omega)
theorem cells3_old {W : World} {B i j : Nat} {x y z : Value} (hj : j < i) :
    (((W.setCell ⟨B, i, none⟩ x).setCell ⟨B, i + 1, none⟩ y).setCell ⟨B, i + 2, none⟩ z).cell? ⟨B, j, none⟩ = W.cell? ⟨B, j, none⟩ := by
  rw [cell_set_ne (by omega), cell_set_ne (by omega), cell_set_ne (by omega)]

def st5 (W : World) (B i : Nat) (x0 x1 x2 x3 x4 : Value) : World := ((((W.setCell ⟨B, i, none⟩ x0).setCell ⟨B, i + 1, none⟩ x1).setCell ⟨B, i + 2, none⟩ x2).setCell ⟨B, i + 3, none⟩ x3).setCell ⟨B, i + 4, none⟩ x4
theorem cells5 {W : World} {B m i : Nat} {x0 x1 x2 x3 x4 : Value} (h : Room B m W) (hi : i + 4 < m) :
    (st5 W B i x0 x1 x2 x3 x4).cell? ⟨B, i, none⟩ = some x0 ∧ (st5 W B i x0 x1 x2 x3 x4).cell? ⟨B, i + 1, none⟩ = some x1 ∧ (st5 W B i x0 x1 x2 x3 x4).cell? ⟨B, i + 2, none⟩ = some x2 ∧ (st5 W B i x0 x1 x2 x3 x4).cell? ⟨B, i + 3, none⟩ = some x3 ∧ (st5 W B i x0 x1 x2 x3 x4).cell? ⟨B, i + 4, none⟩ = some x4 := by
  unfold st5
  refine ⟨?_, ?_, ?_, ?_, ?_⟩
  · rw [cell_set_ne (by omega), cell_set_ne (by omega), cell_set_ne (by omega), cell_set_ne (by omega)]; exact cell_set_eq h (by omega)
  · rw [cell_set_ne (by omega), cell_set_ne (by omega), cell_set_ne (by omega)]; exact cell_set_eq (h.set _ _) (by omega)
  · rw [cell_set_ne (by omega), cell_set_ne (by omega)]; exact cell_set_eq ((h.set _ _).set _ _) (by omega)
  · rw [cell_set_ne (by omega)]; exact cell_set_eq (((h.set _ _).set _ _).set _ _) (by omega)
  · exact cell_set_eq ((((h.set _ _).set _ _).set _ _).set _ _) (by omega)
theorem cells5_old {W : World} {B i j : Nat} {x0 x1 x2 x3 x4 : Value} (hj : j < i) : (st5 W B i x0 x1 x2 x3 x4).cell? ⟨B, j, none⟩ = W.cell? ⟨B, j, none⟩ := by
  unfold st5
  rw [cell_set_ne (by omega), cell_set_ne (by omega), cell_set_ne (by omega), cell_set_ne (by omega), cell_set_ne (by omega)]
theorem same5 {m₀ n₀ : Nat} {W : World} {B i : Nat} {x0 x1 x2 x3 x4 : Value} (h : B < m₀) : Same m₀ n₀ W (st5 W B i x0 x1 x2 x3 x4) :=
  ((((Same.set h).trans (Same.set h)).trans (Same.set h)).trans (Same.set h)).trans (Same.set h)
theorem below5 {n : Nat} {w W : World} {B i : Nat} {x0 x1 x2 x3 x4 : Value} (h : Below n w W) (hn : n ≤ B) : Below n w (st5 W B i x0 x1 x2 x3 x4) :=
  ((((h.setCell (p := ⟨B, _, none⟩) hn _).setCell (p := ⟨B, _, none⟩) hn _).setCell (p := ⟨B, _, none⟩) hn _).setCell (p := ⟨B, _, none⟩) hn _).setCell (p := ⟨B, _, none⟩) hn _
theorem size5 {W : World} {B i : Nat} {x0 x1 x2 x3 x4 : Value} : (st5 W B i x0 x1 x2 x3 x4).heap.size = W.heap.size := by simp [st5]

end Go.Proofs.YtelickcfodcmaaaGreatDoor
