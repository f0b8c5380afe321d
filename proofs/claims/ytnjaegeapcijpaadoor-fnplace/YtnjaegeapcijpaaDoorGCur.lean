/-
  The draws of the model: a box of choices.
  The draws of the model: a number below another.
-/
import Derived.Test.YtnjaegeapcijpaaDoorToM
import Derived.Laws.Bits64b
namespace Go.Proofs.YtnjaegeapcijpaaDoor
open Go.RowKit

/-- bytes, as they lie -/
def IsB (W : World) (a : Option Addr) (len : Nat) : Prop := ∀ j, j < len → ∃ b off v, a = some ⟨b, off, none⟩ ∧ W.cell? ⟨b, off + j, none⟩ = some (.int .u8 v) ∧ 0 ≤ v ∧ v ≤ 255
theorem IsB.later {W W' : World} {a : Option Addr} {len : Nat} (h : IsB W a len) (hB : Below W.heap.size W W') : IsB W' a len := fun j hj => by
  obtain ⟨b, off, v, e, hc, h0, h1⟩ := h j hj
  exact ⟨b, off, v, e, cellLater hB hc, h0, h1⟩
/-- the box of choices at block b, behind the world w0 that it was made in; at most k were taken -/
structure Cur (w0 : World) (b k : Nat) (W : World) : Prop where
  base : Below w0.heap.size w0 W
  lo : w0.heap.size ≤ b
  code : ∃ a len cap, W.cell? ⟨b, 0, none⟩ = some (.slice a len cap) ∧ len ≤ 1048576 ∧ IsB w0 a len
  at_ : ∃ x : Int, 0 ≤ x ∧ x ≤ k ∧ W.cell? ⟨b, 1, none⟩ = some (.int .i64 x)
  seed : ∃ y : Int, 0 ≤ y ∧ y < 18446744073709551616 ∧ W.cell? ⟨b, 2, none⟩ = some (.int .u64 y)
  z1 : W.frozen? ⟨b, 1, none⟩ = false
  z2 : W.frozen? ⟨b, 2, none⟩ = false
section
variable {w0 W W' : World} {b k : Nat}
theorem Cur.lt (h : Cur w0 b k W) : b < W.heap.size := by
  obtain ⟨x, _, _, hc⟩ := h.at_
  exact ltCell hc
theorem Cur.same (h : Cur w0 b k W) (hB : Below w0.heap.size w0 W') (hb : W'.heap[b]? = W.heap[b]?) : Cur w0 b k W' := by
  have cc : ∀ o u, W.cell? ⟨b, o, none⟩ = some u → W'.cell? ⟨b, o, none⟩ = some u := fun o u hu => (World.cell?_of_block (w := W) (w' := W') (a := ⟨b, o, none⟩) hb).trans hu
  have zz : ∀ o, W.frozen? ⟨b, o, none⟩ = false → W'.frozen? ⟨b, o, none⟩ = false := fun o hu => (World.frozen?_of_block (w := W) (w' := W') (a := ⟨b, o, none⟩) hb).trans hu
  obtain ⟨a, len, cap, h1, h2⟩ := h.code
  obtain ⟨x, h3, h4, h5⟩ := h.at_
  obtain ⟨y, h6, h7, h8⟩ := h.seed
  exact ⟨hB, h.lo, ⟨a, len, cap, cc 0 _ h1, h2⟩, ⟨x, h3, h4, cc 1 _ h5⟩, ⟨y, h6, h7, cc 2 _ h8⟩, zz 1 h.z1, zz 2 h.z2⟩
theorem Cur.later (h : Cur w0 b k W) (hB : Below W.heap.size W W') : Cur w0 b k W' := h.same (Below.join h.base (Nat.le_refl _) hB) (hB.block b h.lt)
theorem Cur.more (h : Cur w0 b k W) {k' : Nat} (hk : k ≤ k') : Cur w0 b k' W := by
  obtain ⟨x, h3, h4, h5⟩ := h.at_
  exact ⟨h.base, h.lo, h.code, ⟨x, h3, by omega, h5⟩, h.seed, h.z1, h.z2⟩
theorem Cur.step (h : Cur w0 b k W) {x y : Int} (hx : 0 ≤ x) (hx1 : x ≤ k + 1) (hy : 0 ≤ y) (hy1 : y < 18446744073709551616) : Cur w0 b (k + 1) ((W.setCell ⟨b, 1, none⟩ (.int .i64 x)).setCell ⟨b, 2, none⟩ (.int .u64 y)) := by
  obtain ⟨a, len, cap, h1, h2⟩ := h.code
  obtain ⟨x0, _, _, h5⟩ := h.at_
  obtain ⟨y0, _, _, h8⟩ := h.seed
  exact ⟨(h.base.setCell (p := ⟨b, 1, none⟩) h.lo _).setCell (p := ⟨b, 2, none⟩) h.lo _, h.lo, ⟨a, len, cap, (cell_set_ne (by omega)).trans ((cell_set_ne (by omega)).trans h1), h2⟩, ⟨x, hx, by omega, (cell_set_ne (by omega)).trans (World.cell?_setCell_same _ _ _ h5)⟩, ⟨y, hy, hy1, World.cell?_setCell_same _ _ _ ((cell_set_ne (by omega)).trans h8)⟩, by rw [World.frozen?_setCell, World.frozen?_setCell]; exact h.z1, by rw [World.frozen?_setCell, World.frozen?_setCell]; exact h.z2⟩
theorem Cur.step' (h : Cur w0 b k W) {x y : Int} (hx : 0 ≤ x) (hx1 : x ≤ k + 1) (hy : 0 ≤ y) (hy1 : y < 18446744073709551616) : Cur w0 b (k + 1) ((W.setCell ⟨b, 2, none⟩ (.int .u64 y)).setCell ⟨b, 1, none⟩ (.int .i64 x)) := by
  obtain ⟨a, len, cap, h1, h2⟩ := h.code
  obtain ⟨x0, _, _, h5⟩ := h.at_
  obtain ⟨y0, _, _, h8⟩ := h.seed
  exact ⟨(h.base.setCell (p := ⟨b, 2, none⟩) h.lo _).setCell (p := ⟨b, 1, none⟩) h.lo _, h.lo, ⟨a, len, cap, (cell_set_ne (by omega)).trans ((cell_set_ne (by omega)).trans h1), h2⟩, ⟨x, hx, by omega, World.cell?_setCell_same _ _ _ ((cell_set_ne (by omega)).trans h5)⟩, ⟨y, hy, hy1, (cell_set_ne (by omega)).trans (World.cell?_setCell_same _ _ _ h8)⟩, by rw [World.frozen?_setCell, World.frozen?_setCell]; exact h.z1, by rw [World.frozen?_setCell, World.frozen?_setCell]; exact h.z2⟩
end

theorem wrap_u64 (z : Int) : 0 ≤ IntKind.u64.wrap z ∧ IntKind.u64.wrap z < 18446744073709551616 := by
  rw [IntKind.wrap_u64]
  omega
theorem and_255 (z : Int) (h0 : 0 ≤ z) (h1 : z < 18446744073709551616) : 0 ≤ wrap64 (bits .and .u64 (z / 1099511627776) 255) ∧ wrap64 (bits .and .u64 (z / 1099511627776) 255) ≤ 255 := by
  obtain ⟨n, hn⟩ : ∃ n : Nat, z / 1099511627776 = (n : Int) := ⟨(z / 1099511627776).toNat, by omega⟩
  have hb := bits_and_u64_nat n 255 (by omega) (by decide)
  have hle : n &&& 255 ≤ 255 := Nat.and_le_right
  rw [hn, show (255 : Int) = ((255 : Nat) : Int) from rfl, hb]
  unfold wrap64
  omega
set_option maxRecDepth 20000 in
set_option maxHeartbeats 4000000 in
theorem next_any (w0 : World) (b k : Nat) (w : World) (hk : k ≤ 1000000) (hC : Cur w0 b k w) :
    Calls Tryd.prog 43 #[.pointer (some ⟨b, 0, none⟩)] w fun e w' => ∃ x : Int, e = .returned (.int .i64 x) ∧ 0 ≤ x ∧ x ≤ 255 ∧ Cur w0 b (k + 1) w' ∧ Mid b (b + 1) w w' := by
  obtain ⟨a, len, cap, c0, hl, hI⟩ := hC.code
  obtain ⟨x, hx0, hx1, c1⟩ := hC.at_
  obtain ⟨y, hy0, hy1, c2⟩ := hC.seed
  have z1 := hC.z1
  have z2 := hC.z2
  by_cases hlt : x < len
  · obtain ⟨j, rfl⟩ : ∃ j : Nat, x = j := ⟨x.toNat, by omega⟩
    obtain ⟨b', off, v, rfl, cv, hv0, hv1⟩ := hI j (by omega)
    replace cv := cellLater hC.base cv
    go_enter Tryd.func43, Tryd.ntmps43
    go_wp2
    go_region_held3 (fun w' => w'.cell? ⟨b, 0, none⟩ = some (.slice (some ⟨b', off, none⟩) len cap) ∧ w'.cell? ⟨b, 1, none⟩ = some (.int .i64 j)) (first | go_keep) (fail)
    go_wp2
    go_region_held3 (fun w' => w'.cell? ⟨b, 0, none⟩ = some (.slice (some ⟨b', off, none⟩) len cap) ∧ w'.cell? ⟨b, 1, none⟩ = some (.int .i64 j) ∧ w'.cell? ⟨b', off + j, none⟩ = some (.int .u8 v)) (first | go_keep) (fail)
    go_wp2
    go_ret
    exact ⟨v, rfl, hv0, hv1, ((hC.step (by omega) (by omega) (wrap_u64 _).1 (wrap_u64 _).2).later ((Below.refl _ _).drew)).later ((Below.refl _ _).drew), (((Mid.set (Nat.le_refl _) (Nat.lt_succ_self _) _).trans (Mid.set (Nat.le_refl _) (Nat.lt_succ_self _) _)).trans (Mid.ofBelow ((Below.refl _ _).drew) (by simp; exact Nat.le_of_lt hC.lt))).trans (Mid.ofBelow ((Below.refl _ _).drew) (by simp; exact Nat.le_of_lt hC.lt))⟩
  · have hlt' : ¬ (x < (len : Int)) := hlt
    go_enter Tryd.func43, Tryd.ntmps43
    go_wp2
    go_region_held3 (fun w' => w'.cell? ⟨b, 0, none⟩ = some (.slice a len cap) ∧ w'.cell? ⟨b, 1, none⟩ = some (.int .i64 x)) (first | go_keep) (fail)
    go_wp2
    go_ret
    obtain ⟨r0, r1⟩ := and_255 _ (wrap_u64 (IntKind.u64.wrap (y * 6364136223846793005) + 1442695040888963407)).1 (wrap_u64 (IntKind.u64.wrap (y * 6364136223846793005) + 1442695040888963407)).2
    exact ⟨_, rfl, r0, r1, (hC.step' (by omega) (by omega) (wrap_u64 _).1 (wrap_u64 _).2).later ((Below.refl _ _).drew), ((Mid.set (Nat.le_refl _) (Nat.lt_succ_self _) _).trans (Mid.set (Nat.le_refl _) (Nat.lt_succ_self _) _)).trans (Mid.ofBelow ((Below.refl _ _).drew) (by simp; exact Nat.le_of_lt hC.lt))⟩
end Go.Proofs.YtnjaegeapcijpaaDoor

namespace Go.Proofs.YtnjaegeapcijpaaDoor
open Go.RowKit

theorem rem_small {x n : Int} (hn : 1 < n) : 0 ≤ x % n ∧ x % n < n := ⟨Int.emod_nonneg _ (by omega), Int.emod_lt_of_pos _ (by omega)⟩
set_option maxHeartbeats 2000000 in
theorem pick_any (w0 : World) (b k : Nat) (n : Int) (w : World) (hk : k ≤ 900000) (hn : n ≤ 100000) (hC : Cur w0 b k w) :
    Calls Tryd.prog 28 #[.pointer (some ⟨b, 0, none⟩), .int .i64 n] w fun e w' => ∃ x : Int, e = .returned (.int .i64 x) ∧ 0 ≤ x ∧ (x < n ∨ x = 0) ∧ Cur w0 b (k + 2) w' ∧ Mid b (b + 1) w w' := by
  by_cases h1 : n ≤ 1
  · go_enter Tryd.func28, Tryd.ntmps28
    go_wp2
    go_ret
    exact ⟨0, rfl, Int.le_refl _, Or.inr rfl, hC.more (by omega), Mid.refl _ _ _⟩
  · have hN := next_any w0 b k w (by omega) hC
    have hn0 : n ≠ 0 := by omega
    by_cases h2 : 200 < n
    · go_enter Tryd.func28, Tryd.ntmps28
      go_wp2_with (go_at_call 43; refine hN.mono ?_; rintro _ w1 ⟨x, rfl, hx0, hx1, hC1, hM1⟩)
      refine (next_any w0 b (k + 1) w1 (by omega) hC1).mono ?_
      rintro _ w2 ⟨y, rfl, hy0, hy1, hC2, hM2⟩
      go_wp2
      go_ret
      obtain ⟨r0, r1⟩ := rem_small (x := x * 256 + y) (show 1 < n by omega)
      exact ⟨_, rfl, r0, Or.inl r1, hC2, hM1.trans hM2⟩
    · go_enter Tryd.func28, Tryd.ntmps28
      go_wp2_with (go_at_call 43; refine hN.mono ?_; rintro _ w1 ⟨x, rfl, hx0, hx1, hC1, hM1⟩)
      go_ret
      obtain ⟨r0, r1⟩ := rem_small (x := x) (show 1 < n by omega)
      exact ⟨_, rfl, r0, Or.inl r1, hC1.more (by omega), hM1⟩
end Go.Proofs.YtnjaegeapcijpaaDoor
