/-
  What the functions of the first chapter compute, as plain data, and how that data lies in memory. By the verifier's own hand.
-/
import Derived.Test.YtelickcfodcmaaaGreatDoorProg
import Derived.WalkKit
import Derived.OwnWalk
import Derived.Outline
import Derived.Deep.QuietTactic
import Derived.BigQuiet
import Derived.WalkLawsBesides
import Derived.Handy
namespace Go.Proofs.YtelickcfodcmaaaGreatDoor
open Go.RowKit

structure LegD where
  to : Int
  run : Int
  stay : Int
structure TrainD where
  frm : Int
  ready : Int
  due : Int
  weight : Int
  nl : Nat
  leg : Nat → LegD

/-- the first len places of a row of whole numbers, in a block from m₀ on and below n₀ -/
def IsInts (m₀ n₀ : Nat) (W : World) (a : Option Addr) (len : Nat) (f : Nat → Int) : Prop :=
  ∀ j, j < len → ∃ b off, a = some ⟨b, off, none⟩ ∧ m₀ ≤ b ∧ b < n₀ ∧ W.cell? ⟨b, off + j, none⟩ = some (.int .i64 (f j))
def IsLegs (m₀ n₀ : Nat) (W : World) (a : Option Addr) (len : Nat) (f : Nat → LegD) : Prop :=
  ∀ j, j < len → ∃ b off, a = some ⟨b, off, none⟩ ∧ m₀ ≤ b ∧ b < n₀ ∧ W.cell? ⟨b, off + j * 3, none⟩ = some (.int .i64 (f j).to) ∧ W.cell? ⟨b, off + j * 3 + 1, none⟩ = some (.int .i64 (f j).run) ∧ W.cell? ⟨b, off + j * 3 + 2, none⟩ = some (.int .i64 (f j).stay)
def IsTrains (m₀ n₀ : Nat) (W : World) (a : Option Addr) (len : Nat) (f : Nat → TrainD) : Prop :=
  ∀ j, j < len → ∃ b off la lc, a = some ⟨b, off, none⟩ ∧ m₀ ≤ b ∧ b < n₀ ∧ W.cell? ⟨b, off + j * 5, none⟩ = some (.int .i64 (f j).frm) ∧ W.cell? ⟨b, off + j * 5 + 1, none⟩ = some (.int .i64 (f j).ready) ∧ W.cell? ⟨b, off + j * 5 + 2, none⟩ = some (.int .i64 (f j).due)
    ∧ W.cell? ⟨b, off + j * 5 + 3, none⟩ = some (.int .i64 (f j).weight) ∧ W.cell? ⟨b, off + j * 5 + 4, none⟩ = some (.slice la (f j).nl lc) ∧ IsLegs m₀ n₀ W la (f j).nl (f j).leg ∧ (f j).nl ≤ maxLen

/-- the blocks from m₀ on and below n₀ lie as they lay -/
def Same (m₀ n₀ : Nat) (W W' : World) : Prop := ∀ k, m₀ ≤ k → k < n₀ → W'.heap[k]? = W.heap[k]?
theorem Same.cell {m₀ n₀ : Nat} {W W' : World} (h : Same m₀ n₀ W W') {b o : Nat} {v : Value} (h0 : m₀ ≤ b) (h1 : b < n₀) (hc : W.cell? ⟨b, o, none⟩ = some v) : W'.cell? ⟨b, o, none⟩ = some v :=
  (World.cell?_of_block (w := W) (w' := W') (a := ⟨b, o, none⟩) (h b h0 h1)).trans hc
theorem Same.below {m₀ n₀ B : Nat} {W W' : World} (hb : Below B W W') (hB : n₀ ≤ B) : Same m₀ n₀ W W' := fun k _ h => hb.block k (by omega)
theorem Same.set {m₀ n₀ : Nat} {W : World} {p : Addr} {x : Value} (hp : p.block < m₀) : Same m₀ n₀ W (W.setCell p x) := fun k h _ => Below.heap_setCell W p x k (by omega)
theorem Same.trans {m₀ n₀ : Nat} {A B C : World} (h : Same m₀ n₀ A B) (k : Same m₀ n₀ B C) : Same m₀ n₀ A C := fun i h0 h1 => (k i h0 h1).trans (h i h0 h1)

theorem IsInts.same {m₀ n₀ : Nat} {W W' : World} {a : Option Addr} {len : Nat} {f : Nat → Int} (h : IsInts m₀ n₀ W a len f) (hs : Same m₀ n₀ W W') : IsInts m₀ n₀ W' a len f := fun j hj => by
  obtain ⟨b, off, e, hm, hbn, hc⟩ := h j hj
  exact ⟨b, off, e, hm, hbn, hs.cell hm hbn hc⟩
theorem IsLegs.same {m₀ n₀ : Nat} {W W' : World} {a : Option Addr} {len : Nat} {f : Nat → LegD} (h : IsLegs m₀ n₀ W a len f) (hs : Same m₀ n₀ W W') : IsLegs m₀ n₀ W' a len f := fun j hj => by
  obtain ⟨b, off, e, hm, hbn, h0, h1, h2⟩ := h j hj
  exact ⟨b, off, e, hm, hbn, hs.cell hm hbn h0, hs.cell hm hbn h1, hs.cell hm hbn h2⟩
theorem IsTrains.same {m₀ n₀ : Nat} {W W' : World} {a : Option Addr} {len : Nat} {f : Nat → TrainD} (h : IsTrains m₀ n₀ W a len f) (hs : Same m₀ n₀ W W') : IsTrains m₀ n₀ W' a len f := fun j hj => by
  obtain ⟨b, off, la, lc, e, hm, hbn, h0, h1, h2, h3, h4, h5, h6⟩ := h j hj
  exact ⟨b, off, la, lc, e, hm, hbn, hs.cell hm hbn h0, hs.cell hm hbn h1, hs.cell hm hbn h2, hs.cell hm hbn h3, hs.cell hm hbn h4, h5.same hs, h6⟩
theorem IsInts.mono {m₀ n₀ m₁ n₁ : Nat} {W : World} {a : Option Addr} {len : Nat} {f : Nat → Int} (h : IsInts m₀ n₀ W a len f) (hm : m₁ ≤ m₀) (hn : n₀ ≤ n₁) : IsInts m₁ n₁ W a len f := fun j hj => by
  obtain ⟨b, off, e, hb0, hbn, hc⟩ := h j hj
  exact ⟨b, off, e, by omega, by omega, hc⟩
theorem IsLegs.mono {m₀ n₀ m₁ n₁ : Nat} {W : World} {a : Option Addr} {len : Nat} {f : Nat → LegD} (h : IsLegs m₀ n₀ W a len f) (hm : m₁ ≤ m₀) (hn : n₀ ≤ n₁) : IsLegs m₁ n₁ W a len f := fun j hj => by
  obtain ⟨b, off, e, hb0, hbn, hc⟩ := h j hj
  exact ⟨b, off, e, by omega, by omega, hc⟩
theorem IsTrains.mono {m₀ n₀ m₁ n₁ : Nat} {W : World} {a : Option Addr} {len : Nat} {f : Nat → TrainD} (h : IsTrains m₀ n₀ W a len f) (hm : m₁ ≤ m₀) (hn : n₀ ≤ n₁) : IsTrains m₁ n₁ W a len f := fun j hj => by
  obtain ⟨b, off, la, lc, e, hb0, hbn, h0, h1, h2, h3, h4, h5, h6⟩ := h j hj
  exact ⟨b, off, la, lc, e, by omega, by omega, h0, h1, h2, h3, h4, h5.mono hm hn, h6⟩
theorem IsInts.below {m₀ n₀ B : Nat} {W W' : World} {a : Option Addr} {len : Nat} {f : Nat → Int} (h : IsInts m₀ n₀ W a len f) (hb : Below B W W') (hB : n₀ ≤ B) : IsInts m₀ n₀ W' a len f := h.same (Same.below hb hB)
theorem IsLegs.below {m₀ n₀ B : Nat} {W W' : World} {a : Option Addr} {len : Nat} {f : Nat → LegD} (h : IsLegs m₀ n₀ W a len f) (hb : Below B W W') (hB : n₀ ≤ B) : IsLegs m₀ n₀ W' a len f := h.same (Same.below hb hB)
theorem IsTrains.below {m₀ n₀ B : Nat} {W W' : World} {a : Option Addr} {len : Nat} {f : Nat → TrainD} (h : IsTrains m₀ n₀ W a len f) (hb : Below B W W') (hB : n₀ ≤ B) : IsTrains m₀ n₀ W' a len f := h.same (Same.below hb hB)
theorem IsInts.grow {m₀ : Nat} {W W' : World} {a : Option Addr} {len : Nat} {f : Nat → Int} (h : IsInts m₀ W.heap.size W a len f) (hb : Below W.heap.size W W') : IsInts m₀ W'.heap.size W' a len f := (h.below hb (Nat.le_refl _)).mono (Nat.le_refl _) hb.size
theorem IsLegs.grow {m₀ : Nat} {W W' : World} {a : Option Addr} {len : Nat} {f : Nat → LegD} (h : IsLegs m₀ W.heap.size W a len f) (hb : Below W.heap.size W W') : IsLegs m₀ W'.heap.size W' a len f := (h.below hb (Nat.le_refl _)).mono (Nat.le_refl _) hb.size
theorem IsTrains.grow {m₀ : Nat} {W W' : World} {a : Option Addr} {len : Nat} {f : Nat → TrainD} (h : IsTrains m₀ W.heap.size W a len f) (hb : Below W.heap.size W W') : IsTrains m₀ W'.heap.size W' a len f := (h.below hb (Nat.le_refl _)).mono (Nat.le_refl _) hb.size
theorem bcell {W w1 : World} (hb : Below W.heap.size W w1) : (∀ b o, b < W.heap.size → w1.cell? ⟨b, o, none⟩ = W.cell? ⟨b, o, none⟩) ∧ (∀ b o, b < W.heap.size → w1.frozen? ⟨b, o, none⟩ = W.frozen? ⟨b, o, none⟩) :=
  ⟨fun b o h => hb.cell (p := ⟨b, o, none⟩) h, fun b o h => hb.frozen (p := ⟨b, o, none⟩) h⟩
theorem b1 (w : World) (o : Obj) : Below w.heap.size w (w.alloc o) := (Below.refl _ _).alloc (Nat.le_refl _) _
theorem b2 (w : World) (o o' : Obj) : Below w.heap.size w ((w.alloc o).alloc o') := (b1 w o).alloc (by simp) _
theorem b3 (w : World) (o o' o'' : Obj) : Below w.heap.size w (((w.alloc o).alloc o').alloc o'') := (b2 w o o').alloc (by simp; omega) _

theorem ltCell {W : World} {a : Addr} {v : Value} (h : W.cell? a = some v) : a.block < W.heap.size := by
  rcases Nat.lt_or_ge a.block W.heap.size with h' | h'
  · exact h'
  · simp [World.cell?, Array.getElem?_eq_none h'] at h
theorem cellLater {W W' : World} {a : Addr} {v : Value} (hb : Below W.heap.size W W') (h : W.cell? a = some v) : W'.cell? a = some v := (hb.cell (ltCell h)).trans h
theorem Below.join {n : Nat} {A B C : World} (h : Below n A B) (hn : n ≤ A.heap.size) (k : Below B.heap.size B C) : Below n A C := h.trans (k.mono (Nat.le_trans hn h.size))

theorem new3 (w : World) (x y z : Value) (t : TypeId) : (w.alloc (.cells #[x, y, z] t)).cell? ⟨w.heap.size, 0, none⟩ = some x ∧ (w.alloc (.cells #[x, y, z] t)).cell? ⟨w.heap.size, 1, none⟩ = some y ∧ (w.alloc (.cells #[x, y, z] t)).cell? ⟨w.heap.size, 2, none⟩ = some z := by simp
theorem new2 (w : World) (x y : Value) (t : TypeId) : (w.alloc (.cells #[x, y] t)).cell? ⟨w.heap.size, 0, none⟩ = some x ∧ (w.alloc (.cells #[x, y] t)).cell? ⟨w.heap.size, 1, none⟩ = some y := by simp

/-- low ≤ n and n ≤ high -/
def inB (n low high : Int) : Bool := decide (low ≤ n ∧ n ≤ high)
theorem l1in_any (n low high : Int) (w : World) : Calls Tryz.prog 62 #[.int .i64 n, .int .i64 low, .int .i64 high] w fun e w' => e = .returned (.bool (inB n low high)) ∧ w' = w := by
  unfold inB
  by_cases h1 : low ≤ n <;> by_cases h2 : n ≤ high
  all_goals
    go_enter Tryz.func62, Tryz.ntmps62
    go_wp2
    go_ret
    simp [h1, h2]
end Go.Proofs.YtelickcfodcmaaaGreatDoor
