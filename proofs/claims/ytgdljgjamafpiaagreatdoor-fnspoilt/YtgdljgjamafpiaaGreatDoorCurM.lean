/-
  The draws of the model: a line, mostly spoilt.
-/
import Derived.Test.YtgdljgjamafpiaaGreatDoorCurL
namespace Go.Proofs.YtgdljgjamafpiaaGreatDoor
open Go.RowKit

/-- a line in its box at block bl, behind the world of the call -/
structure DrI (w : World) (b bl B0 k : Nat) (tr : List Int) (gap : Int) (L : List TrV) (vt vT : Value) (W : World) : Prop where
  c0 : W.cell? ⟨bl, 0, none⟩ = some vt
  c1 : W.cell? ⟨bl, 1, none⟩ = some (.int .i64 gap)
  c2 : W.cell? ⟨bl, 2, none⟩ = some vT
  z0 : W.frozen? ⟨bl, 0, none⟩ = false
  z1 : W.frozen? ⟨bl, 1, none⟩ = false
  z2 : W.frozen? ⟨bl, 2, none⟩ = false
  own : LOwn B0 W tr L vt vT
  blk : ∀ j, Blk vt vT L j → j ≠ bl
  tl : 1 ≤ tr.length ∧ tr.length ≤ 13
  Ll : L.length ≤ 6
  gl : ∀ x ∈ L, x.1.legs.length ≤ 10
  cur : Cur w b k W
  room : Room w.heap.size 3 W
theorem DrI.step {w : World} {b bl B0 k k' : Nat} {tr tr' : List Int} {gap gap' : Int} {L L' : List TrV} {vt vT vt' vT' : Value} {W W' : World} (h : DrI w b bl B0 k tr gap L vt vT W) (own : LOwn B0 W' tr' L' vt' vT') (tl : 1 ≤ tr'.length ∧ tr'.length ≤ 13) (Ll : L'.length ≤ 6) (gl : ∀ x ∈ L', x.1.legs.length ≤ 10) (cur : Cur w b k' W')
    (hblk : ∀ j, Blk vt' vT' L' j → Blk vt vT L j ∨ W.heap.size ≤ j) (hs : ∀ j, j < W.heap.size → j ≠ b → ¬ Blk vt vT L j → W'.heap[j]? = W.heap[j]?) (hb : w.heap.size < b) (hB : b < B0) (hbl : b < bl) :
    W'.heap[bl]? = W.heap[bl]? ∧ DrI w b bl B0 k' tr' gap' L' vt' vT' (((W'.setCell ⟨bl, 0, none⟩ vt').setCell ⟨bl, 1, none⟩ (.int .i64 gap')).setCell ⟨bl, 2, none⟩ vT') := by
  have hlb := ltCell h.c0
  dsimp only at hlb
  have hbk : W'.heap[bl]? = W.heap[bl]? := hs bl hlb (by omega) (fun e => h.blk bl e rfl)
  have cc : ∀ o u, W.cell? ⟨bl, o, none⟩ = some u → W'.cell? ⟨bl, o, none⟩ = some u := fun o u hu => (World.cell?_of_block (w := W) (w' := W') (a := ⟨bl, o, none⟩) hbk).trans hu
  have zz : ∀ o, W.frozen? ⟨bl, o, none⟩ = false → W'.frozen? ⟨bl, o, none⟩ = false := fun o hu => (World.frozen?_of_block (w := W) (w' := W') (a := ⟨bl, o, none⟩) hbk).trans hu
  have hne : ∀ j, Blk vt' vT' L' j → j ≠ bl := fun j hj => by
    rcases hblk j hj with e | e
    · exact h.blk j e
    · omega
  have hs3 : ∀ j, j ≠ bl → (((W'.setCell ⟨bl, 0, none⟩ vt').setCell ⟨bl, 1, none⟩ (.int .i64 gap')).setCell ⟨bl, 2, none⟩ vT').heap[j]? = W'.heap[j]? := fun j hj => (Below.heap_setCell _ _ _ j hj).trans ((Below.heap_setCell _ _ _ j hj).trans (Below.heap_setCell _ _ _ j hj))
  refine ⟨hbk, (cell_set_ne (by omega)).trans ((cell_set_ne (by omega)).trans (World.cell?_setCell_same _ _ _ (cc 0 _ h.c0))), (cell_set_ne (by omega)).trans (World.cell?_setCell_same _ _ _ ((cell_set_ne (by omega)).trans (cc 1 _ h.c1))), World.cell?_setCell_same _ _ _ ((cell_set_ne (by omega)).trans ((cell_set_ne (by omega)).trans (cc 2 _ h.c2))),
    by simp only [World.frozen?_setCell]; exact zz 0 h.z0, by simp only [World.frozen?_setCell]; exact zz 1 h.z1, by simp only [World.frozen?_setCell]; exact zz 2 h.z2, own.keep (fun j hj => hs3 j (hne j hj)), hne, tl, Ll, gl, ((cur.set _ hbl _).set _ hbl _).set _ hbl _, ?_⟩
  refine Room.set (Room.set (Room.set (fun i hi => ?_) _ _) _ _) _ _
  obtain ⟨v, hv, hz⟩ := h.room i hi
  have hr : W'.heap[w.heap.size]? = W.heap[w.heap.size]? := hs _ (ltCell hv) (by omega) (fun e => by have := (h.own.blk e).1; omega)
  exact ⟨v, (World.cell?_of_block (w := W) (w' := W') (a := ⟨w.heap.size, i, none⟩) hr).trans hv, (World.frozen?_of_block (w := W) (w' := W') (a := ⟨w.heap.size, i, none⟩) hr).trans hz⟩
theorem DrI.mid {w : World} {b bl B0 k k' : Nat} {tr : List Int} {gap : Int} {L : List TrV} {vt vT : Value} {W W' : World} (h : DrI w b bl B0 k tr gap L vt vT W) (hM : Mid b (b + 1) W W') (hC : Cur w b k' W') (hB : b < B0) (hbl : b < bl) : DrI w b bl B0 k' tr gap L vt vT W' := by
  have hbk : W'.heap[bl]? = W.heap[bl]? := hM.above bl (by omega) (ltCell h.c0)
  have cc : ∀ o u, W.cell? ⟨bl, o, none⟩ = some u → W'.cell? ⟨bl, o, none⟩ = some u := fun o u hu => (World.cell?_of_block (w := W) (w' := W') (a := ⟨bl, o, none⟩) hbk).trans hu
  have zz : ∀ o, W.frozen? ⟨bl, o, none⟩ = false → W'.frozen? ⟨bl, o, none⟩ = false := fun o hu => (World.frozen?_of_block (w := W) (w' := W') (a := ⟨bl, o, none⟩) hbk).trans hu
  exact ⟨cc 0 _ h.c0, cc 1 _ h.c1, cc 2 _ h.c2, zz 0 h.z0, zz 1 h.z1, zz 2 h.z2, h.own.mid hM hB, h.blk, h.tl, h.Ll, h.gl, hC, h.room.keep hM⟩
/-- what a draw of a line, mostly spoilt, answers -/
def DrawOkPost (w : World) (e : Ending) (w' : World) : Prop := ∃ (tr : List Int) (gap : Int) (L : List TrV) (at_ : Option Addr) (ct : Nat) (aT : Option Addr) (cT : Nat), e = .returned (.agg #[.slice at_ tr.length ct, .int .i64 gap, .slice aT L.length cT]) ∧ LOwn w.heap.size w' tr L (.slice at_ tr.length ct) (.slice aT L.length cT) ∧ tr.length ≤ 13 ∧ L.length ≤ 6 ∧ (∀ x ∈ L, x.1.legs.length ≤ 10) ∧ Below w.heap.size w w'
set_option maxRecDepth 20000 in
set_option maxHeartbeats 8000000 in
theorem drawLineOk_any (w : World) (a : Option Addr) (len cap : Nat) (hl : len ≤ 1048576) (hI : IsB w a len) :
    Calls Tryz.prog 4 #[.slice a len cap] w (DrawOkPost w) := by
  have hA1 := b1 w (.cells #[.slice none 0 0, .int .i64 0, .slice none 0 0] 26)
  have hA2 := b1 (w.alloc (.cells #[.slice none 0 0, .int .i64 0, .slice none 0 0] 26)) (.cells #[.slice a len cap, .int .i64 0, .int .u64 0] 49)
  have hR1 : Room w.heap.size 3 (w.alloc (.cells #[.slice none 0 0, .int .i64 0, .slice none 0 0] 26)) := Room.lit _ _ _ 3 (by simp)
  have hC1 : Cur w (w.heap.size + 1) 0 ((w.alloc (.cells #[.slice none 0 0, .int .i64 0, .slice none 0 0] 26)).alloc (.cells #[.slice a len cap, .int .i64 0, .int .u64 0] 49)) := by
    refine ⟨Below.join hA1 (Nat.le_refl _) hA2, by omega, ⟨a, len, cap, ?_, hl, hI⟩, ⟨0, by omega, by omega, ?_⟩, ⟨0, by omega, by omega, ?_⟩, ?_, ?_⟩
    all_goals
      rw [show w.heap.size + 1 = (w.alloc (.cells #[.slice none 0 0, .int .i64 0, .slice none 0 0] 26)).heap.size from (World.size_alloc ..).symm]
      simp
  have hR2 := hR1.keep (Mid.ofBelow (lo := 0) (hi := 0) hA2 (Nat.zero_le _))
  have hD := drawLine_any w (w.heap.size + 1) 0 8 _ (by omega) (by omega) (by omega) hC1
  clear hR1 hA1
  go_enter Tryz.func4, Tryz.ntmps4
  go_wp2_with (go_at_call 13; fail)
  refine hD.mono ?_
  rintro _ w2 ⟨l, hDr, ⟨L, at_, ct, aT, cT, hlL, rfl, hown⟩, hC2, hM2⟩
  clear hD
  have hR3 := (hR2.keep hM2).keep (Mid.ofBelow (lo := 0) (hi := 0) (b1 w2 (.cells #[.slice at_ l.tracks.length ct, .int .i64 l.gap, .slice aT L.length cT] 26)) (Nat.zero_le _))
  obtain ⟨b, hb0⟩ : ∃ b, b = w.heap.size + 1 := ⟨_, rfl⟩
  rw [World.size_alloc, World.size_alloc, ← hb0] at hown
  rw [← hb0] at hC2
  rw [← hb0]
  have hA3 := b1 w2 (.cells #[.slice at_ l.tracks.length ct, .int .i64 l.gap, .slice aT L.length cT] 26)
  obtain ⟨bl, hbl0⟩ : ∃ bl, bl = w2.heap.size := ⟨_, rfl⟩
  have hbb : w.heap.size < b := by omega
  have hbl : b < bl := by have := hC2.lt; omega
  have hLlen : L.length = l.trains.length := by rw [hlL, List.length_map]
  have hI3 : DrI w b bl (b + 1) 1000 l.tracks l.gap L (.slice at_ l.tracks.length ct) (.slice aT L.length cT) (w2.alloc (.cells #[.slice at_ l.tracks.length ct, .int .i64 l.gap, .slice aT L.length cT] 26)) := by
    refine ⟨?_, ?_, ?_, ?_, ?_, ?_, hown.later hA3, fun j hj => ?_, ?_, ?_, fun x hx => ?_, hC2.later hA3, hR3⟩
    · subst hbl0; simp
    · subst hbl0; simp
    · subst hbl0; simp
    · subst hbl0; simp
    · subst hbl0; simp
    · subst hbl0; simp
    · have := (hown.blk hj).2; omega
    · have := hDr.tr; omega
    · have := hDr.trs; omega
    · have h1 := hDr.legs
      rw [hlL, List.map_map] at h1
      exact Nat.le_trans (le_sum (List.mem_map.2 ⟨x, hx, rfl⟩)) h1
  have hP := pick_any w b 1000 3 _ (by omega) (by decide) hI3.cur
  have hbl' : Hid (bl = w2.heap.size) := hbl0
  have hb0' : Hid (b = w.heap.size + 1) := hb0
  clear hA2 hC1 hR2 hM2 hR3 hC2 hA3 hlL hown hDr hLlen hb0
  go_wp2_with (go_at_call 14; fail)
  refine hP.mono ?_
  rintro _ w3 ⟨x3, rfl, hx0, hx1, hC3, hM3⟩
  rw [← hbl0]
  clear hP hbl0
  have hI4 := hI3.mid hM3 hC3 (by omega) hbl
  clear hI3 hM3 hC3
  obtain ⟨c0, rfl⟩ : ∃ c : Nat, x3 = c := ⟨x3.toNat, by omega⟩
  have hc2 : c0 ≤ 2 := by omega
  clear hx0 hx1
  go_wp2
  go_loopw [5] (fun cc wr => ∃ (c kk : Nat) (tr : List Int) (gap : Int) (L : List TrV) (vt vT : Value), cc = .int .i64 c ∧ DrI w b bl (b + 1) kk tr gap L vt vT wr ∧ c ≤ 2 ∧ kk + 100 * c ≤ 1400) (fun cc _ => (intOf cc).toNat)
  case atStart => exact ⟨c0, 1002, _, _, _, _, _, rfl, hI4, hc2, by omega⟩
  case round =>
    clear hI4 hc2
    obtain ⟨c, kk, tr, gap, L, vt, vT, rfl, hI, hc2, hkk⟩ := hrel
    obtain ⟨at', ct', rfl, _⟩ := ownInts hI.own.ints
    obtain ⟨aT', cT', rfl, _⟩ := hI.own.trs.trains (fun x hx => by have := hI.gl x hx; unfold maxLen; omega)
    have q0 := hI.c0
    have q1 := hI.c1
    have q2 := hI.c2
    have hlb := ltCell q0
    dsimp only at hlb
    by_cases hc : 0 < c
    · have hc' : (0 : Int) < (c : Int) := by omega
      go_wp2_with (go_at_call 15; fail)
      refine (spoil_any w wr b (b + 1) kk tr gap L _ _ (by omega) hI.own hI.tl hI.Ll hI.gl hI.cur (by omega) (by omega)).mono ?_
      rintro _ w4 ⟨tr', gap', L', vt', vT', rfl, hown', tl', Ll', gl', hC', hblk', hs', hsz⟩
      obtain ⟨at4, ct4, rfl, _⟩ := ownInts hown'.ints
      obtain ⟨aT4, cT4, rfl, _⟩ := hown'.trs.trains (fun x hx => by have := gl' x hx; unfold maxLen; omega)
      obtain ⟨hbk, hI5⟩ := hI.step (gap' := gap') hown' tl' Ll' gl' hC' hblk' hs' hbb (by omega) hbl
      have m0 := (World.cell?_of_block (w' := w4) (a := ⟨bl, 0, none⟩) hbk).trans hI.c0
      have m1 := (World.cell?_of_block (w' := w4) (a := ⟨bl, 1, none⟩) hbk).trans hI.c1
      have m2 := (World.cell?_of_block (w' := w4) (a := ⟨bl, 2, none⟩) hbk).trans hI.c2
      have z0 := (World.frozen?_of_block (w' := w4) (a := ⟨bl, 0, none⟩) hbk).trans hI.z0
      have z1 := (World.frozen?_of_block (w' := w4) (a := ⟨bl, 1, none⟩) hbk).trans hI.z1
      have z2 := (World.frozen?_of_block (w' := w4) (a := ⟨bl, 2, none⟩) hbk).trans hI.z2
      have hI5' : Hid _ := hI5
      clear hI5 hbk hs' hblk' hC' hown'
      go_wp2
      go_roundw
      case rel => exact ⟨c - 1, kk + 100, tr', gap', L', _, _, by congr 1; omega, hI5'.out, by omega, by omega⟩
      case measure => simp only [intOf]; omega
    · obtain rfl : c = 0 := by omega
      obtain ⟨x0, e0, f0⟩ := hI.room 0 (by omega)
      obtain ⟨x1, e1, f1⟩ := hI.room 1 (by omega)
      obtain ⟨x2, e2, f2⟩ := hI.room 2 (by omega)
      have hne : w.heap.size ≠ bl := by omega
      go_wp2
      refine bodyPost_ret (v := .agg #[.slice at' tr.length ct', .int .i64 gap, .slice aT' L.length cT']) (by simp [results, Tryz.results4, go_sem, e0, e1, e2]) rfl ⟨tr, gap, L, at', ct', aT', cT', rfl, ?_, hI.tl.2, hI.Ll, hI.gl, ?_⟩
      · exact (((hI.own.set ⟨w.heap.size, _, none⟩ (by show w.heap.size < b + 1; omega) _).set ⟨w.heap.size, _, none⟩ (by show w.heap.size < b + 1; omega) _).set ⟨w.heap.size, _, none⟩ (by show w.heap.size < b + 1; omega) _).low (by omega)
      · exact ((hI.cur.base.setCell (p := ⟨w.heap.size, _, none⟩) (Nat.le_refl _) _).setCell (p := ⟨w.heap.size, _, none⟩) (Nat.le_refl _) _).setCell (p := ⟨w.heap.size, _, none⟩) (Nat.le_refl _) _
end Go.Proofs.YtgdljgjamafpiaaGreatDoor
