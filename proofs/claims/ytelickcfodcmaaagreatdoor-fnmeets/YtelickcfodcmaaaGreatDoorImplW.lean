/-
  The program's word on who has what.
-/
import Derived.Test.YtelickcfodcmaaaGreatDoorImplS
import Derived.Test.YtelickcfodcmaaaGreatDoorGroups
import Derived.Deep.DrawnRows
namespace Go.Proofs.YtelickcfodcmaaaGreatDoor
open Go.RowKit

/-- the world in which whoHas begins its loops -/
structure WhoStart (w W : World) (a : Option Addr) (len cap : Nat) (gap : Int) (a' : Option Addr) (np cap' : Nat) (c : Option Addr) (nc : Nat) : Prop where
  sz : W.heap.size = w.heap.size + 6
  l1 : W.cell? ⟨w.heap.size, 1, none⟩ = some (.int .i64 gap)
  l2 : W.cell? ⟨w.heap.size, 2, none⟩ = some (.slice a' np cap')
  p0 : W.cell? ⟨w.heap.size + 1, 0, none⟩ = some (.slice c np nc)
  r : W.heap[w.heap.size + 1 + 1]? = some (.cells #[.slice none 0 0, .slice none 0 0, .slice none 0 0, .map none, .map none] 62 (0, 0))
  h : W.heap[w.heap.size + 1 + 1 + 1 + 1 + 1]? = some (.cells #[.slice a' np cap', .slice c np nc, .slice a len cap, .map (some (w.heap.size + 1 + 1 + 1)), .map (some (w.heap.size + 1 + 1 + 1 + 1))] 62 (0, 0))
  gr : Gr W (w.heap.size + 6) (w.heap.size + 1 + 1 + 1) (w.heap.size + 1 + 1 + 1 + 1) 0 (fun _ => .slice none 0 0) (fun _ => .slice none 0 0) (fun _ => []) (fun _ => [])
  b : Below w.heap.size w W
theorem whoStart (w : World) (a : Option Addr) (len cap : Nat) (gap : Int) (a' : Option Addr) (np cap' : Nat) (c : Option Addr) (nc : Nat) :
    WhoStart w ((((((w.alloc (.cells #[.slice a len cap, .int .i64 gap, .slice a' np cap'] 26)).alloc (.cells #[.slice c np nc] 30)).alloc (.cells #[.slice none 0 0, .slice none 0 0, .slice none 0 0, .map none, .map none] 62)).alloc (.map #[] 0)).alloc (.map #[] 0)).alloc
      (.cells #[.slice a' np cap', .slice c np nc, .slice a len cap, .map (some (w.heap.size + 1 + 1 + 1)), .map (some (w.heap.size + 1 + 1 + 1 + 1))] 62)) a len cap gap a' np cap' c nc := by
  have n0 := b3 w (.cells #[.slice a len cap, .int .i64 gap, .slice a' np cap'] 26) (.cells #[.slice c np nc] 30) (.cells #[.slice none 0 0, .slice none 0 0, .slice none 0 0, .map none, .map none] 62)
  obtain ⟨y0, y1, y2, u0⟩ := box2 w a len cap gap a' np cap' c np nc 26 30
  generalize hV2 : (w.alloc (.cells #[.slice a len cap, .int .i64 gap, .slice a' np cap'] 26)).alloc (.cells #[.slice c np nc] 30) = V2 at *
  have s2 : V2.heap.size = w.heap.size + 1 + 1 := by rw [← hV2]; simp
  clear hV2
  have hr := Go.heap_alloc_new V2 (.cells #[.slice none 0 0, .slice none 0 0, .slice none 0 0, .map none, .map none] 62)
  have n1 := b1 V2 (.cells #[.slice none 0 0, .slice none 0 0, .slice none 0 0, .map none, .map none] 62)
  generalize hV : V2.alloc (.cells #[.slice none 0 0, .slice none 0 0, .slice none 0 0, .map none, .map none] 62) = V at *
  have s3 : V.heap.size = w.heap.size + 1 + 1 + 1 := by rw [← hV]; simp [s2]
  clear hV
  have k3 := KV.made 3 V (.slice none 0 0)
  have m3 := b1 V (.map #[] 0)
  generalize hV3 : V.alloc (.map #[] 0) = V3 at *
  have s4 : V3.heap.size = w.heap.size + 1 + 1 + 1 + 1 := by rw [← hV3]; simp [s3]
  clear hV3
  have k4 := KV.made 3 V3 (.slice none 0 0)
  have m4 := b1 V3 (.map #[] 0)
  generalize hV4 : V3.alloc (.map #[] 0) = V4 at *
  have s5 : V4.heap.size = w.heap.size + 1 + 1 + 1 + 1 + 1 := by rw [← hV4]; simp [s4]
  clear hV4
  have m5 := b1 V4 (.cells #[.slice a' np cap', .slice c np nc, .slice a len cap, .map (some (w.heap.size + 1 + 1 + 1)), .map (some (w.heap.size + 1 + 1 + 1 + 1))] 62)
  have hh := Go.heap_alloc_new V4 (.cells #[.slice a' np cap', .slice c np nc, .slice a len cap, .map (some (w.heap.size + 1 + 1 + 1)), .map (some (w.heap.size + 1 + 1 + 1 + 1))] 62)
  generalize hV5 : V4.alloc (.cells #[.slice a' np cap', .slice c np nc, .slice a len cap, .map (some (w.heap.size + 1 + 1 + 1)), .map (some (w.heap.size + 1 + 1 + 1 + 1))] 62) = V5 at *
  have s6 : V5.heap.size = w.heap.size + 6 := by rw [← hV5]; simp [s5]
  clear hV5
  have q3 := Below.join (Below.join m3 (Nat.le_refl _) m4) (Nat.le_refl _) m5
  have q2 := Below.join n1 (Nat.le_refl _) q3
  rw [s2] at hr
  rw [s3] at k3
  rw [s4] at k4
  rw [s5] at hh
  refine ⟨s6, cellLater q2 y1, cellLater q2 y2, cellLater q2 u0, (q3.block _ (by omega)).trans hr, hh, ⟨(k3.later m4).later m5, k4.later m5, fun _ => World.ownsRow_nil _ _ _ _, fun _ => World.ownsRow_nil _ _ _ _, fun _ _ _ => Or.inl rfl, fun _ _ _ => Or.inl rfl, fun _ _ => Or.inl rfl, fun _ _ => Or.inl rfl, by omega, by omega, by omega, by omega⟩, Below.join n0 (Nat.le_refl _) q3⟩

theorem box5 {W : World} {B : Nat} {x0 x1 x2 x3 x4 : Value} {t : TypeId} (h : W.heap[B]? = some (.cells #[x0, x1, x2, x3, x4] t (0, 0))) :
    (W.cell? ⟨B, 0, none⟩ = some x0 ∧ W.cell? ⟨B, 1, none⟩ = some x1 ∧ W.cell? ⟨B, 2, none⟩ = some x2 ∧ W.cell? ⟨B, 3, none⟩ = some x3 ∧ W.cell? ⟨B, 4, none⟩ = some x4) ∧
    (W.frozen? ⟨B, 0, none⟩ = false ∧ W.frozen? ⟨B, 1, none⟩ = false ∧ W.frozen? ⟨B, 2, none⟩ = false ∧ W.frozen? ⟨B, 3, none⟩ = false ∧ W.frozen? ⟨B, 4, none⟩ = false) := by
  simp [World.cell?, World.frozen?, h]
theorem wf_small {x : Int} (h0 : 0 ≤ x) (h1 : x ≤ 1000000000) : (Lit.int .i64 x).wf = true := WalkArith.wf_i64 (by omega)
end Go.Proofs.YtelickcfodcmaaaGreatDoor
