/-
  The model's Check: what it answers.
-/
import Derived.Test.YtelickcfodcmaaaGreatDoorPlainC
import Derived.Test.YtelickcfodcmaaaGreatDoorSpecF
namespace Go.Proofs.YtelickcfodcmaaaGreatDoor
open Go.RowKit

set_option maxRecDepth 20000 in
set_option maxHeartbeats 8000000 in
/-- where the line is not right -/
theorem specCheck_line (a : Option Addr) (len cap : Nat) (g : Nat → Int) (gap : Int) (a' : Option Addr) (len' cap' : Nat) (f : Nat → TrainD) (c : Option Addr) (np nc : Nat) (w : World)
    (hl : len ≤ 1048576) (hl' : len' ≤ 1048576) (hml : ∀ j, j < len' → (f j).nl ≤ 1048576) (hI : IsInts 0 w.heap.size w a len g) (hT : IsTrains 0 w.heap.size w a' len' f) (hF : Hid ((faultOf len g gap len' f).1 ≠ 0)) :
    Calls Tryz.prog 8 #[.agg #[.slice a len cap, .int .i64 gap, .slice a' len' cap'], .agg #[.slice c np nc]] w fun e w' => e = .returned (.agg #[.int .i64 1, .int .i64 0, .int .i64 0, .int .i64 0]) ∧ Below w.heap.size w w' := by
  go_enter Tryz.func8, Tryz.ntmps8
  go_wp2_with (go_at_call 29; refine (l1ok_no _ _ _ g _ _ _ _ f _ hl hl' hml (hI.grow (b3 _ _ _ _)) (hT.grow (b3 _ _ _ _)) hF.out).mono ?_; rintro _ w2 ⟨rfl, hB2⟩; obtain ⟨hc, hf⟩ := bcell hB2; have hz : w.heap.size + 2 < w2.heap.size := (by have := hB2.size; simp at this; omega))
  refine bodyPost_ret (v := .agg #[.int .i64 1, .int .i64 0, .int .i64 0, .int .i64 0]) (by simp [results, Tryz.results8, go_sem, hc]) rfl ⟨rfl, ?_⟩
  exact ((((Below.join (b3 _ _ _ _) (Nat.le_refl _) hB2).setCell (p := ⟨w.heap.size + 1 + 1, _, none⟩) (by simp; omega) _).setCell (p := ⟨w.heap.size + 1 + 1, _, none⟩) (by simp; omega) _).setCell (p := ⟨w.heap.size + 1 + 1, _, none⟩) (by simp; omega) _).setCell (p := ⟨w.heap.size + 1 + 1, _, none⟩) (by simp; omega) _

/-- what a walk of Check knows of its own blocks: the line's box, the plan's, the answer's four places -/
structure Boxes (w W : World) (a : Option Addr) (len cap : Nat) (gap : Int) (a' : Option Addr) (len' cap' : Nat) (c : Option Addr) (np nc : Nat) : Prop where
  l0 : W.cell? ⟨w.heap.size, 0, none⟩ = some (.slice a len cap)
  l1 : W.cell? ⟨w.heap.size, 1, none⟩ = some (.int .i64 gap)
  l2 : W.cell? ⟨w.heap.size, 2, none⟩ = some (.slice a' len' cap')
  p0 : W.cell? ⟨w.heap.size + 1, 0, none⟩ = some (.slice c np nc)
  r0 : W.cell? ⟨w.heap.size + 1 + 1, 0, none⟩ = some (.int .i64 0)
  r1 : W.cell? ⟨w.heap.size + 1 + 1, 1, none⟩ = some (.int .i64 0)
  r2 : W.cell? ⟨w.heap.size + 1 + 1, 2, none⟩ = some (.int .i64 0)
  r3 : W.cell? ⟨w.heap.size + 1 + 1, 3, none⟩ = some (.int .i64 0)
  z0 : W.frozen? ⟨w.heap.size + 1 + 1, 0, none⟩ = false
  z1 : W.frozen? ⟨w.heap.size + 1 + 1, 1, none⟩ = false
  z2 : W.frozen? ⟨w.heap.size + 1 + 1, 2, none⟩ = false
  z3 : W.frozen? ⟨w.heap.size + 1 + 1, 3, none⟩ = false
theorem frozenLater {W W' : World} {a : Addr} {v : Value} (hb : Below W.heap.size W W') (h : W.cell? a = some v) (hf : W.frozen? a = false) : W'.frozen? a = false := (hb.frozen (ltCell h)).trans hf
theorem Boxes.later {w W W' : World} {a : Option Addr} {len cap : Nat} {gap : Int} {a' : Option Addr} {len' cap' : Nat} {c : Option Addr} {np nc : Nat} (h : Boxes w W a len cap gap a' len' cap' c np nc) (hb : Below W.heap.size W W') : Boxes w W' a len cap gap a' len' cap' c np nc :=
  ⟨cellLater hb h.l0, cellLater hb h.l1, cellLater hb h.l2, cellLater hb h.p0, cellLater hb h.r0, cellLater hb h.r1, cellLater hb h.r2, cellLater hb h.r3, frozenLater hb h.r0 h.z0, frozenLater hb h.r1 h.z1, frozenLater hb h.r2 h.z2, frozenLater hb h.r3 h.z3⟩
theorem Boxes.new (w : World) (a : Option Addr) (len cap : Nat) (gap : Int) (a' : Option Addr) (len' cap' : Nat) (c : Option Addr) (np nc : Nat) (t t' t'' : TypeId) :
    Boxes w (((w.alloc (.cells #[.slice a len cap, .int .i64 gap, .slice a' len' cap'] t)).alloc (.cells #[.slice c np nc] t')).alloc (.cells #[.int .i64 0, .int .i64 0, .int .i64 0, .int .i64 0] t'')) a len cap gap a' len' cap' c np nc := by
  obtain ⟨y0, y1, y2, u0⟩ := box2 w a len cap gap a' len' cap' c np nc t t'
  refine ⟨cellLater (b1 _ _) y0, cellLater (b1 _ _) y1, cellLater (b1 _ _) y2, cellLater (b1 _ _) u0, ?_, ?_, ?_, ?_, ?_, ?_, ?_, ?_⟩
  · rw [World.cell?_alloc_at _ _ _ _ (by simp)]; rfl
  · rw [World.cell?_alloc_at _ _ _ _ (by simp)]; rfl
  · rw [World.cell?_alloc_at _ _ _ _ (by simp)]; rfl
  · rw [World.cell?_alloc_at _ _ _ _ (by simp)]; rfl
  · rw [World.frozen?_alloc_at _ _ _ _ (by simp)]
  · rw [World.frozen?_alloc_at _ _ _ _ (by simp)]
  · rw [World.frozen?_alloc_at _ _ _ _ (by simp)]
  · rw [World.frozen?_alloc_at _ _ _ _ (by simp)]

set_option maxRecDepth 20000 in
set_option maxHeartbeats 8000000 in
/-- where the plan has not the shape -/
theorem specCheck_shape (a : Option Addr) (len cap : Nat) (g : Nat → Int) (gap : Int) (a' : Option Addr) (len' cap' : Nat) (f : Nat → TrainD) (c : Option Addr) (np nc : Nat) (P : Nat → RowD) (w : World)
    (hl : len ≤ 1048576) (hl' : len' ≤ 1048576) (hml : ∀ j, j < len' → (f j).nl ≤ 1048576) (hp : np ≤ 1048576) (hmp : ∀ j, j < np → (P j).n ≤ 1048576) (hI : IsInts 0 w.heap.size w a len g) (hT : IsTrains 0 w.heap.size w a' len' f) (hP : IsRows 0 w.heap.size w c np P)
    (hF : Hid (faultOf len g gap len' f = (0, 0))) (hS : shapeB len' f np P = false) :
    Calls Tryz.prog 8 #[.agg #[.slice a len cap, .int .i64 gap, .slice a' len' cap'], .agg #[.slice c np nc]] w fun e w' => e = .returned (.agg #[.int .i64 1, .int .i64 0, .int .i64 0, .int .i64 0]) ∧ Below w.heap.size w w' := by
  have hX0 := Boxes.new w a len cap gap a' len' cap' c np nc 26 30 33
  go_enter Tryz.func8, Tryz.ntmps8
  go_wp2_with (first | (go_at_call 29; refine (l1ok_yes _ _ _ g _ _ _ _ f _ hl hl' hml (hI.grow (b3 _ _ _ _)) (hT.grow (b3 _ _ _ _)) hF).mono ?_; rintro _ w2 ⟨rfl, hB2⟩; have hBx := Below.join (b3 w _ _ _) (Nat.le_refl _) hB2; replace hX0 := hX0.later hB2; have x0 := hX0.l0; have x1 := hX0.l1; have x2 := hX0.l2; have y0 := hX0.p0) | (go_at_call 30; refine (l2shape_any _ _ _ _ _ _ _ f _ _ _ P _ hl' hp hml hmp (hT.grow hBx) (hP.grow hBx)).mono ?_; rw [hS]; rintro _ w3 ⟨rfl, hB3⟩; replace hBx := Below.join hBx (Nat.le_refl _) hB3; replace hX0 := hX0.later hB3; clear x0 x1 x2 y0; have r0 := hX0.r0; have r1 := hX0.r1; have r2 := hX0.r2; have r3 := hX0.r3; have z0 := hX0.z0; have z1 := hX0.z1; have z2 := hX0.z2; have z3 := hX0.z3))
  refine bodyPost_ret (v := .agg #[.int .i64 1, .int .i64 0, .int .i64 0, .int .i64 0]) (by simp [results, Tryz.results8, go_sem, r0, r1, r2, r3]) rfl ⟨rfl, ?_⟩
  exact ((((hBx.setCell (p := ⟨w.heap.size + 1 + 1, _, none⟩) (by simp; omega) _).setCell (p := ⟨w.heap.size + 1 + 1, _, none⟩) (by simp; omega) _).setCell (p := ⟨w.heap.size + 1 + 1, _, none⟩) (by simp; omega) _).setCell (p := ⟨w.heap.size + 1 + 1, _, none⟩) (by simp; omega) _)
end Go.Proofs.YtelickcfodcmaaaGreatDoor
