/-
  The model's Check: what it answers.
-/
import Derived.Test.YtnjaegeapcijpaaDoorPlainC
import Derived.Test.YtnjaegeapcijpaaDoorSpecF
namespace Go.Proofs.YtnjaegeapcijpaaDoor
open Go.RowKit

/-- what a walk of Check knows of its own blocks: the line's box, the plan's, the answer's four places -/
structure Boxes (w W : World) (a : Option Addr) (len cap : Nat) (gap : Int) (a' : Option Addr) (len' cap' : Nat) (c : Option Addr) (np nc : Nat) : Prop where
  l0 : W.cell? ⟨w.heap.size, 0, none⟩ = some (.slice a len cap)
  l1 : W.cell? ⟨w.heap.size, 1, none⟩ = some (.int .i64 gap)
  l2 : W.cell? ⟨w.heap.size, 2, none⟩ = some (.slice a' len' cap')
  p0 : W.cell? ⟨w.heap.size + 1, 0, none⟩ = some (.slice c np nc)
  r0 : W.cell? ⟨w.heap.size + 1 + 1, 0, none⟩ = some (.int .i64 0)
  r1 : W.cell? ⟨w.heap.size + 1 + 1, 1, none⟩ = some (.int .i64 0)
  r2 : W.cell? ⟨w.heap.size + 1 + 1, 2, none⟩ = some (.int .i64 0)
  r3 : W.cell? ⟨w.heap.size + 1 + 1, 3, none⟩ = some (.int .i64 0)
  z0 : W.frozen? ⟨w.heap.size + 1 + 1, 0, none⟩ = false
  z1 : W.frozen? ⟨w.heap.size + 1 + 1, 1, none⟩ = false
  z2 : W.frozen? ⟨w.heap.size + 1 + 1, 2, none⟩ = false
  z3 : W.frozen? ⟨w.heap.size + 1 + 1, 3, none⟩ = false
theorem frozenLater {W W' : World} {a : Addr} {v : Value} (hb : Below W.heap.size W W') (h : W.cell? a = some v) (hf : W.frozen? a = false) : W'.frozen? a = false := (hb.frozen (ltCell h)).trans hf
theorem Boxes.later {w W W' : World} {a : Option Addr} {len cap : Nat} {gap : Int} {a' : Option Addr} {len' cap' : Nat} {c : Option Addr} {np nc : Nat} (h : Boxes w W a len cap gap a' len' cap' c np nc) (hb : Below W.heap.size W W') : Boxes w W' a len cap gap a' len' cap' c np nc :=
  ⟨cellLater hb h.l0, cellLater hb h.l1, cellLater hb h.l2, cellLater hb h.p0, cellLater hb h.r0, cellLater hb h.r1, cellLater hb h.r2, cellLater hb h.r3, frozenLater hb h.r0 h.z0, frozenLater hb h.r1 h.z1, frozenLater hb h.r2 h.z2, frozenLater hb h.r3 h.z3⟩
theorem Boxes.new (w : World) (a : Option Addr) (len cap : Nat) (gap : Int) (a' : Option Addr) (len' cap' : Nat) (c : Option Addr) (np nc : Nat) (t t' t'' : TypeId) :
    Boxes w (((w.alloc (.cells #[.slice a len cap, .int .i64 gap, .slice a' len' cap'] t)).alloc (.cells #[.slice c np nc] t')).alloc (.cells #[.int .i64 0, .int .i64 0, .int .i64 0, .int .i64 0] t'')) a len cap gap a' len' cap' c np nc := by
  obtain ⟨y0, y1, y2, u0⟩ := box2 w a len cap gap a' len' cap' c np nc t t'
  refine ⟨cellLater (b1 _ _) y0, cellLater (b1 _ _) y1, cellLater (b1 _ _) y2, cellLater (b1 _ _) u0, ?_, ?_, ?_, ?_, ?_, ?_, ?_, ?_⟩
  · rw [World.cell?_alloc_at _ _ _ _ (by simp)]; rfl
  · rw [World.cell?_alloc_at _ _ _ _ (by simp)]; rfl
  · rw [World.cell?_alloc_at _ _ _ _ (by simp)]; rfl
  · rw [World.cell?_alloc_at _ _ _ _ (by simp)]; rfl
  · rw [World.frozen?_alloc_at _ _ _ _ (by simp)]
  · rw [World.frozen?_alloc_at _ _ _ _ (by simp)]
  · rw [World.frozen?_alloc_at _ _ _ _ (by simp)]
  · rw [World.frozen?_alloc_at _ _ _ _ (by simp)]

end Go.Proofs.YtnjaegeapcijpaaDoor
