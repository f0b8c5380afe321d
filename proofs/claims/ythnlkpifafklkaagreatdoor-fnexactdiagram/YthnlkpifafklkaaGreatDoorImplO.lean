/-
  cmp.Or over three clashes: the first that is not the zero value.
-/
import Derived.Test.YthnlkpifafklkaaGreatDoorImplY
namespace Go.Proofs.YthnlkpifafklkaaGreatDoor
open Go.RowKit

def orC (v : Nat → Int × Int × Int × Int) : Int × Int × Int × Int :=
  if (v 0).1 ≠ 0 then v 0 else if (v 1).1 ≠ 0 then v 1 else if (v 2).1 ≠ 0 then v 2 else (0, 0, 0, 0)
theorem orC_at {v : Nat → Int × Int × Int × Int} {k : Nat} (hk : k < 3) (hz : (v k).1 ≠ 0) (h : ∀ j, j < k → v j = (0, 0, 0, 0)) : orC v = v k := by
  unfold orC
  match k, hk with
  | 0, _ => rw [if_pos hz]
  | 1, _ => rw [if_neg (by rw [h 0 (by omega)]; simp), if_pos hz]
  | 2, _ => rw [if_neg (by rw [h 0 (by omega)]; simp), if_neg (by rw [h 1 (by omega)]; simp), if_pos hz]
theorem orC_none {v : Nat → Int × Int × Int × Int} (h : ∀ j, j < 3 → v j = (0, 0, 0, 0)) : orC v = (0, 0, 0, 0) := by
  unfold orC
  rw [if_neg (by rw [h 0 (by omega)]; simp), if_neg (by rw [h 1 (by omega)]; simp), if_neg (by rw [h 2 (by omega)]; simp)]

/-- the answer's box and the zero value's -/
structure OrBox (w W : World) : Prop where
  r0 : W.cell? ⟨w.heap.size, 0, none⟩ = some (.int .i64 0)
  r1 : W.cell? ⟨w.heap.size, 1, none⟩ = some (.int .i64 0)
  r2 : W.cell? ⟨w.heap.size, 2, none⟩ = some (.int .i64 0)
  r3 : W.cell? ⟨w.heap.size, 3, none⟩ = some (.int .i64 0)
  z0 : W.frozen? ⟨w.heap.size, 0, none⟩ = false
  z1 : W.frozen? ⟨w.heap.size, 1, none⟩ = false
  z2 : W.frozen? ⟨w.heap.size, 2, none⟩ = false
  z3 : W.frozen? ⟨w.heap.size, 3, none⟩ = false
  n0 : W.cell? ⟨w.heap.size + 1, 0, none⟩ = some (.int .i64 0)
  n1 : W.cell? ⟨w.heap.size + 1, 1, none⟩ = some (.int .i64 0)
  n2 : W.cell? ⟨w.heap.size + 1, 2, none⟩ = some (.int .i64 0)
  n3 : W.cell? ⟨w.heap.size + 1, 3, none⟩ = some (.int .i64 0)
theorem OrBox.later {w W W' : World} (h : OrBox w W) (hb : Below W.heap.size W W') : OrBox w W' :=
  ⟨cellLater hb h.r0, cellLater hb h.r1, cellLater hb h.r2, cellLater hb h.r3, frozenLater hb h.r0 h.z0, frozenLater hb h.r1 h.z1, frozenLater hb h.r2 h.z2, frozenLater hb h.r3 h.z3, cellLater hb h.n0, cellLater hb h.n1, cellLater hb h.n2, cellLater hb h.n3⟩
theorem box4 (w : World) (x0 x1 x2 x3 : Value) (t : TypeId) : ((w.alloc (.cells #[x0, x1, x2, x3] t)).cell? ⟨w.heap.size, 0, none⟩ = some x0 ∧ (w.alloc (.cells #[x0, x1, x2, x3] t)).cell? ⟨w.heap.size, 1, none⟩ = some x1 ∧ (w.alloc (.cells #[x0, x1, x2, x3] t)).cell? ⟨w.heap.size, 2, none⟩ = some x2 ∧ (w.alloc (.cells #[x0, x1, x2, x3] t)).cell? ⟨w.heap.size, 3, none⟩ = some x3) ∧
    ((w.alloc (.cells #[x0, x1, x2, x3] t)).frozen? ⟨w.heap.size, 0, none⟩ = false ∧ (w.alloc (.cells #[x0, x1, x2, x3] t)).frozen? ⟨w.heap.size, 1, none⟩ = false ∧ (w.alloc (.cells #[x0, x1, x2, x3] t)).frozen? ⟨w.heap.size, 2, none⟩ = false ∧ (w.alloc (.cells #[x0, x1, x2, x3] t)).frozen? ⟨w.heap.size, 3, none⟩ = false) := by
  refine ⟨by simp, ?_, ?_, ?_, ?_⟩ <;> rw [World.frozen?_alloc_at _ _ _ _ rfl]
theorem OrBox.new (w : World) (t t' : TypeId) : OrBox w ((w.alloc (.cells #[.int .i64 0, .int .i64 0, .int .i64 0, .int .i64 0] t)).alloc (.cells #[.int .i64 0, .int .i64 0, .int .i64 0, .int .i64 0] t')) := by
  obtain ⟨⟨r0, r1, r2, r3⟩, z0, z1, z2, z3⟩ := box4 w (.int .i64 0) (.int .i64 0) (.int .i64 0) (.int .i64 0) t
  obtain ⟨⟨n0, n1, n2, n3⟩, _⟩ := box4 (w.alloc (.cells #[.int .i64 0, .int .i64 0, .int .i64 0, .int .i64 0] t)) (.int .i64 0) (.int .i64 0) (.int .i64 0) (.int .i64 0) t'
  have hb := b1 (w.alloc (.cells #[.int .i64 0, .int .i64 0, .int .i64 0, .int .i64 0] t)) (.cells #[.int .i64 0, .int .i64 0, .int .i64 0, .int .i64 0] t')
  have es : (w.alloc (.cells #[.int .i64 0, .int .i64 0, .int .i64 0, .int .i64 0] t)).heap.size = w.heap.size + 1 := by simp
  rw [es] at n0 n1 n2 n3
  exact ⟨cellLater hb r0, cellLater hb r1, cellLater hb r2, cellLater hb r3, frozenLater hb r0 z0, frozenLater hb r1 z1, frozenLater hb r2 z2, frozenLater hb r3 z3, n0, n1, n2, n3⟩

set_option maxRecDepth 20000 in
set_option maxHeartbeats 8000000 in
theorem or_any (b off cap : Nat) (v : Nat → Int × Int × Int × Int) (w : World) (hv : ∀ k, k < 3 → v k = (0, 0, 0, 0) ∨ (v k).1 ≠ 0)
    (hc : ∀ k, k < 3 → w.cell? ⟨b, off + k * 4, none⟩ = some (.int .i64 (v k).1) ∧ w.cell? ⟨b, off + k * 4 + 1, none⟩ = some (.int .i64 (v k).2.1) ∧ w.cell? ⟨b, off + k * 4 + 2, none⟩ = some (.int .i64 (v k).2.2.1) ∧ w.cell? ⟨b, off + k * 4 + 3, none⟩ = some (.int .i64 (v k).2.2.2)) :
    Calls Tryz.prog 86 #[.slice (some ⟨b, off, none⟩) 3 cap] w fun e w' => e = .returned (clashV (orC v)) ∧ Below w.heap.size w w' := by
  have hX := OrBox.new w 86 86
  have hN := b2 w (.cells #[.int .i64 0, .int .i64 0, .int .i64 0, .int .i64 0] 86) (.cells #[.int .i64 0, .int .i64 0, .int .i64 0, .int .i64 0] 86)
  obtain ⟨vv, hE⟩ : ∃ vv, orC v = vv := ⟨_, rfl⟩
  rw [hE]
  go_enter Tryz.func86, Tryz.ntmps86
  go_wp2
  refine nameW fun W0 hW => ?_
  rw [← hW] at hX hN
  clear hW
  go_loopw [8] (fun kk wr => ∃ (k : Nat), k ≤ 3 ∧ kk = .int .i64 k ∧ (∀ j, j < k → v j = (0, 0, 0, 0)) ∧ OrBox w wr ∧ Below w.heap.size w wr) (fun kk _ => 3 - (intOf kk).toNat)
  case atStart => exact ⟨0, Nat.zero_le _, rfl, fun _ h => by omega, hX, hN⟩
  case round =>
    clear hX hN
    obtain ⟨k, hk, rfl, hall, hX, hB⟩ := hrel
    have n0 := hX.n0
    have n1 := hX.n1
    have n2 := hX.n2
    have n3 := hX.n3
    have ln : w.heap.size + 1 < wr.heap.size := ltCell n0
    by_cases hlt : k < 3
    · have hlt' : (k : Int) < 3 := by omega
      have hk0 : (0 : Int) ≤ (k : Int) := by omega
      obtain ⟨c0, c1, c2, c3⟩ := hc k hlt
      replace c0 := cellLater hB c0
      replace c1 := cellLater hB c1
      replace c2 := cellLater hB c2
      replace c3 := cellLater hB c3
      rcases hv k hlt with hz | hz
      · rw [hz] at c0 c1 c2 c3
        dsimp only at c0 c1 c2 c3
        go_wp2
        go_roundw
        case rel => exact ⟨k + 1, by omega, by go_num, fun j hj => (by by_cases e : j = k; (· subst e; exact hz); (· exact hall j (by omega))), hX.later (b1 _ _), Below.join hB (Nat.le_refl _) (b1 _ _)⟩
        case measure => simp [intOf]; omega
      · have hve := hE.symm.trans (orC_at hlt hz hall)
        generalize v k = vq at c0 c1 c2 c3 hz hve
        obtain ⟨v0, v1, v2, v3⟩ := vq
        dsimp only at c0 c1 c2 c3 hz
        have hz' : (v0 == 0) = false := by simpa using hz
        have r0 := hX.r0
        have r1 := hX.r1
        have r2 := hX.r2
        have r3 := hX.r3
        have z0 := hX.z0
        have z1 := hX.z1
        have z2 := hX.z2
        have z3 := hX.z3
        have lw : w.heap.size < wr.heap.size := ltCell r0
        go_wp2
        refine bodyPost_ret (v := .agg #[.int .i64 v0, .int .i64 v1, .int .i64 v2, .int .i64 v3]) (by simp [results, Tryz.results86, go_sem, r0, r1, r2, r3, lw, World.cell?_alloc_lt]) rfl ⟨by first | (rw [hve]; rfl) | (subst hve; rfl), ?_⟩
        exact (below_set4 hB (by omega) _ _ _ _).alloc (by simp; omega) _
    · have hlt' : (3 : Int) ≤ (k : Int) := by omega
      have hve := hE.symm.trans (orC_none (fun j hj => hall j (by omega)))
      have r0 := hX.r0
      have r1 := hX.r1
      have r2 := hX.r2
      have r3 := hX.r3
      have z0 := hX.z0
      have z1 := hX.z1
      have z2 := hX.z2
      have z3 := hX.z3
      clear hlt hk
      go_wp2
      refine bodyPost_ret (v := .agg #[.int .i64 0, .int .i64 0, .int .i64 0, .int .i64 0]) (by simp [results, Tryz.results86, go_sem, r0, r1, r2, r3]) rfl ⟨by first | (rw [hve]; rfl) | (subst hve; rfl), ?_⟩
      exact below_set4 hB (by omega) _ _ _ _
end Go.Proofs.YthnlkpifafklkaaGreatDoor
