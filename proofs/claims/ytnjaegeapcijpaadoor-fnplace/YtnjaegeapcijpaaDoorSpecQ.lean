/-
  The model's word on a plan's shape, and when a train is at its end.
-/
import Derived.Test.YtnjaegeapcijpaaDoorSpecP
namespace Go.Proofs.YtnjaegeapcijpaaDoor
open Go.RowKit

theorem shapeB_len {ntr : Nat} {f : Nat → TrainD} {np : Nat} {P : Nat → RowD} (h : np ≠ ntr) : shapeB ntr f np P = false := decide_eq_false (fun hh => h hh.1)
theorem shapeB_row {ntr : Nat} {f : Nat → TrainD} {np : Nat} {P : Nat → RowD} {i : Nat} (hi : i < np) (h : (P i).n ≠ (f i).nl) : shapeB ntr f np P = false := decide_eq_false (fun hh => h (hh.2 i hi).1)
theorem shapeB_at {ntr : Nat} {f : Nat → TrainD} {np : Nat} {P : Nat → RowD} {i k : Nat} (hi : i < np) (hk : k < (P i).n) (h : inB ((P i).s k) 0 1000000 = false) : shapeB ntr f np P = false := decide_eq_false (fun hh => by rw [(hh.2 i hi).2 k hk] at h; cases h)

theorem box2 (w : World) (a : Option Addr) (len cap : Nat) (gap : Int) (a' : Option Addr) (len' cap' : Nat) (c : Option Addr) (np nc : Nat) (t t' : TypeId) :
    ((w.alloc (.cells #[.slice a len cap, .int .i64 gap, .slice a' len' cap'] t)).alloc (.cells #[.slice c np nc] t')).cell? ⟨w.heap.size, 0, none⟩ = some (.slice a len cap) ∧ ((w.alloc (.cells #[.slice a len cap, .int .i64 gap, .slice a' len' cap'] t)).alloc (.cells #[.slice c np nc] t')).cell? ⟨w.heap.size, 1, none⟩ = some (.int .i64 gap) ∧
    ((w.alloc (.cells #[.slice a len cap, .int .i64 gap, .slice a' len' cap'] t)).alloc (.cells #[.slice c np nc] t')).cell? ⟨w.heap.size, 2, none⟩ = some (.slice a' len' cap') ∧ ((w.alloc (.cells #[.slice a len cap, .int .i64 gap, .slice a' len' cap'] t)).alloc (.cells #[.slice c np nc] t')).cell? ⟨w.heap.size + 1, 0, none⟩ = some (.slice c np nc) := by
  obtain ⟨n0, n1, n2⟩ := new3 w (.slice a len cap) (.int .i64 gap) (.slice a' len' cap') t
  exact ⟨cellLater (b1 _ _) n0, cellLater (b1 _ _) n1, cellLater (b1 _ _) n2, by rw [World.cell?_alloc_at _ _ _ _ (by simp)]; rfl⟩
end Go.Proofs.YtnjaegeapcijpaaDoor
