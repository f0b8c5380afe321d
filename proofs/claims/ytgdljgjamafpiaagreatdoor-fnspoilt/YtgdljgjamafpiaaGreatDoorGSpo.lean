/-
  The draws of the model: a line that is spoilt in place.
  The draws of the model: how a line is spoilt, each way.
  The draws of the model: the end of a spoiling.
  The draws of the model: a leg is spoilt.
  The draws of the model: a train is spoilt.
  The draws of the model: one of the trains is spoilt.
-/
import Derived.Test.YtgdljgjamafpiaaGreatDoorGLine
namespace Go.Proofs.YtgdljgjamafpiaaGreatDoor
open Go.RowKit

theorem trCells_mid (A B : List TrV) (x : TrV) : trCells (A ++ x :: B) = trCells A ++ (trCells [x] ++ trCells B) := by simp [trCells]
theorem trCells_put (A B : List TrV) (x x' : TrV) (f : Nat) (v : Value) (hf : f < 5) (hx : (trCells [x]).set f v = trCells [x']) : (trCells (A ++ x :: B)).set (A.length * 5 + f) v = trCells (A ++ x' :: B) := by
  rw [trCells_mid, trCells_mid, List.set_append_right _ _ (by rw [trCells_len]; omega), trCells_len, show A.length * 5 + f - A.length * 5 = f by omega, List.set_append_left _ _ (by rw [trCells_len]; simpa using hf), hx]
theorem legCells_len (L : List LegD) : (legCells L).length = L.length * 3 := by
  induction L with
  | nil => rfl
  | cons x L ih =>
    have : legCells (x :: L) = [.int .i64 x.to, .int .i64 x.run, .int .i64 x.stay] ++ legCells L := by simp [legCells]
    rw [this, List.length_append, ih]; simp; omega
theorem legCells_mid (A B : List LegD) (x : LegD) : legCells (A ++ x :: B) = legCells A ++ (legCells [x] ++ legCells B) := by simp [legCells]
theorem legCells_put (A B : List LegD) (x x' : LegD) (f : Nat) (v : Value) (hf : f < 3) (hx : (legCells [x]).set f v = legCells [x']) : (legCells (A ++ x :: B)).set (A.length * 3 + f) v = legCells (A ++ x' :: B) := by
  rw [legCells_mid, legCells_mid, List.set_append_right _ _ (by rw [legCells_len]; omega), legCells_len, show A.length * 3 + f - A.length * 3 = f by omega, List.set_append_left _ _ (by rw [legCells_len]; simpa using hf), hx]
/-- a train's field, written where it lies -/
theorem OwnT.put {B0 : Nat} {W : World} {g cap : Nat} {A B : List TrV} {x x' : TrV} {f : Nat} {v : Value} (h : OwnT B0 W (.slice (some ⟨g, 0, none⟩) (A ++ x :: B).length cap) (A ++ x :: B)) (hf : f < 5) (hx : (trCells [x]).set f v = trCells [x']) (hsub : ∀ k, x'.2.ownBlock = some k → x.2.ownBlock = some k) (hl : OwnLegs B0 W x'.2 x'.1.legs) :
    OwnT B0 (W.setCell ⟨g, A.length * 5 + f, none⟩ v) (.slice (some ⟨g, 0, none⟩) (A ++ x' :: B).length cap) (A ++ x' :: B) := by
  have hlen : (A ++ x' :: B).length = (A ++ x :: B).length := by simp
  have hoffx : Off x'.2 (.slice (some ⟨g, 0, none⟩) (A ++ x :: B).length cap) := fun k hk => h.off x (by simp) k (hsub k hk)
  have hp := List.pairwise_append.1 h.apart
  have hp2 := List.pairwise_cons.1 hp.2.1
  refine ⟨?_, fun y hy => ?_, ?_, fun y hy => ?_⟩
  · rw [hlen, ← trCells_put A B x x' f v hf hx]
    exact ownsRow_put h.row _ _
  · have keep : ∀ z : TrV, OwnLegs B0 W z.2 z.1.legs → Off z.2 (.slice (some ⟨g, 0, none⟩) (A ++ x :: B).length cap) → OwnLegs B0 (W.setCell ⟨g, A.length * 5 + f, none⟩ v) z.2 z.1.legs := fun z hz ho => ownsRow_same hz (fun k hk => Below.heap_setCell W _ _ k (fun e => ho k hk (by rw [e]; rfl)))
    rcases List.mem_append.1 hy with hy | hy
    · exact keep y (h.legs y (by simp [hy])) (h.off y (by simp [hy]))
    · rcases List.mem_cons.1 hy with rfl | hy
      · exact keep _ hl hoffx
      · exact keep y (h.legs y (by simp [hy])) (h.off y (by simp [hy]))
  · rw [List.pairwise_append]
    refine ⟨hp.1, List.pairwise_cons.2 ⟨fun y hy k hk => hp2.1 y hy k (hsub k hk), hp2.2⟩, fun y hy z hz => ?_⟩
    rcases List.mem_cons.1 hz with rfl | hz
    · exact fun k hk e => hp.2.2 y hy x (by simp) k hk (hsub k e)
    · exact hp.2.2 y hy z (by simp [hz])
  · rw [hlen]
    rcases List.mem_append.1 hy with hy | hy
    · exact h.off y (by simp [hy])
    · rcases List.mem_cons.1 hy with rfl | hy
      · exact hoffx
      · exact h.off y (by simp [hy])
/-- a leg's field, written where it lies -/
theorem OwnT.legput {B0 : Nat} {W : World} {v : Value} {A B : List TrV} {t : TrL} {LA LB : List LegD} {y y' : LegD} {gl lc f : Nat} {u : Value} (h : OwnT B0 W v (A ++ (t, .slice (some ⟨gl, 0, none⟩) t.legs.length lc) :: B)) (ht : t.legs = LA ++ y :: LB) (hf : f < 3) (hx : (legCells [y]).set f u = legCells [y']) :
    OwnT B0 (W.setCell ⟨gl, LA.length * 3 + f, none⟩ u) v (A ++ ({ t with legs := LA ++ y' :: LB }, .slice (some ⟨gl, 0, none⟩) t.legs.length lc) :: B) := by
  have hp := List.pairwise_append.1 h.apart
  have hp2 := List.pairwise_cons.1 hp.2.1
  have hlen : (A ++ ({ t with legs := LA ++ y' :: LB }, .slice (some ⟨gl, 0, none⟩) t.legs.length lc) :: B).length = (A ++ (t, .slice (some ⟨gl, 0, none⟩) t.legs.length lc) :: B).length := by simp
  have hll : (LA ++ y' :: LB).length = t.legs.length := by rw [ht]; simp
  have hg : (Value.slice (some ⟨gl, 0, none⟩) t.legs.length lc).ownBlock = some gl := rfl
  have hoff := h.off (t, .slice (some ⟨gl, 0, none⟩) t.legs.length lc) (by simp)
  refine ⟨?_, fun z hz => ?_, ?_, fun z hz => ?_⟩
  · rw [hlen]
    have e : trCells (A ++ ({ t with legs := LA ++ y' :: LB }, .slice (some ⟨gl, 0, none⟩) t.legs.length lc) :: B) = trCells (A ++ (t, .slice (some ⟨gl, 0, none⟩) t.legs.length lc) :: B) := by simp [trCells]
    rw [e]
    exact ownsRow_same h.row (fun k hk => Below.heap_setCell W _ _ k (fun e => hoff gl rfl (by rw [hk, e])))
  · rcases List.mem_append.1 hz with hz | hz
    · exact ownsRow_same (h.legs z (by simp [hz])) (fun k hk => Below.heap_setCell W _ _ k (fun e => hp.2.2 z hz (t, .slice (some ⟨gl, 0, none⟩) t.legs.length lc) (by simp) k hk (by rw [e]; rfl)))
    · rcases List.mem_cons.1 hz with rfl | hz
      · have h1 := h.legs (t, .slice (some ⟨gl, 0, none⟩) t.legs.length lc) (by simp)
        unfold OwnLegs at h1 ⊢
        dsimp only at h1 ⊢
        rw [hll, ← legCells_put LA LB y y' f u hf hx, ← ht]
        exact ownsRow_put h1 _ _
      · exact ownsRow_same (h.legs z (by simp [hz])) (fun k hk => Below.heap_setCell W _ _ k (fun e => hp2.1 z hz gl rfl (by rw [hk, e])))
  · rw [List.pairwise_append]
    refine ⟨hp.1, List.pairwise_cons.2 ⟨fun z hz => hp2.1 z hz, hp2.2⟩, fun z hz u hu => ?_⟩
    rcases List.mem_cons.1 hu with rfl | hu
    · exact hp.2.2 z hz (t, .slice (some ⟨gl, 0, none⟩) t.legs.length lc) (by simp)
    · exact hp.2.2 z hz u (by simp [hu])
  · rcases List.mem_append.1 hz with hz | hz
    · exact h.off z (by simp [hz])
    · rcases List.mem_cons.1 hz with rfl | hz
      · exact hoff
      · exact h.off z (by simp [hz])
/-- a block of the line's rows -/
def Blk (vt vT : Value) (L : List TrV) (j : Nat) : Prop := vt.ownBlock = some j ∨ vT.ownBlock = some j ∨ ∃ x ∈ L, x.2.ownBlock = some j
theorem LOwn.blk {B0 : Nat} {W : World} {tr : List Int} {L : List TrV} {vt vT : Value} (h : LOwn B0 W tr L vt vT) {j : Nat} (hj : Blk vt vT L j) : B0 ≤ j ∧ j < W.heap.size := by
  rcases hj with hj | hj
  · exact h.ints.lt j hj
  · exact h.trs.lt hj
theorem LOwn.keep {B0 : Nat} {W W' : World} {tr : List Int} {L : List TrV} {vt vT : Value} (h : LOwn B0 W tr L vt vT) (hs : ∀ j, Blk vt vT L j → W'.heap[j]? = W.heap[j]?) : LOwn B0 W' tr L vt vT :=
  ⟨ownsRow_same h.ints (fun k hk => hs k (Or.inl hk)), h.trs.same (fun k hk => hs k (Or.inr hk)), h.off, h.offs⟩
/-- a line in its box at block bl, in the midst of being spoilt: what was written lies in its rows (those of O, and new ones) and in the box of choices -/
structure Spo (w0 w : World) (b bl B0 : Nat) (O : Nat → Prop) (k : Nat) (tr : List Int) (gap : Int) (L : List TrV) (vt vT : Value) (W : World) : Prop where
  c0 : W.cell? ⟨bl, 0, none⟩ = some vt
  c1 : W.cell? ⟨bl, 1, none⟩ = some (.int .i64 gap)
  c2 : W.cell? ⟨bl, 2, none⟩ = some vT
  z0 : W.frozen? ⟨bl, 0, none⟩ = false
  z1 : W.frozen? ⟨bl, 1, none⟩ = false
  z2 : W.frozen? ⟨bl, 2, none⟩ = false
  own : LOwn B0 W tr L vt vT
  blk : ∀ j, Blk vt vT L j → j ≠ bl ∧ j ≠ bl + 1 ∧ (O j ∨ bl ≤ j)
  tl : 1 ≤ tr.length ∧ tr.length ≤ 13
  Ll : L.length ≤ 6
  gl : ∀ x ∈ L, x.1.legs.length ≤ 10
  cur : Cur w0 b k W
  only : ∀ j, j < bl → j ≠ b → ¬ O j → W.heap[j]? = w.heap[j]?
  room : Room (bl + 1) 3 W
section
variable {w0 w : World} {b bl B0 k : Nat} {O : Nat → Prop} {tr : List Int} {gap : Int} {L : List TrV} {vt vT : Value} {W : World}
theorem Spo.lt (h : Spo w0 w b bl B0 O k tr gap L vt vT W) : bl + 1 < W.heap.size := by
  obtain ⟨v, hv, _⟩ := h.room 0 (by omega)
  exact ltCell hv
theorem Spo.upd {W' : World} {k' : Nat} {tr' : List Int} {L' : List TrV} {vt' vT' : Value} (h : Spo w0 w b bl B0 O k tr gap L vt vT W) (hs : ∀ j, j < W.heap.size → ¬ Blk vt vT L j → j ≠ b → W'.heap[j]? = W.heap[j]?)
    (own : LOwn B0 W' tr' L' vt' vT') (hv : vt' = vt) (hT : vT' = vT) (blk : ∀ j, Blk vt' vT' L' j → Blk vt vT L j ∨ W.heap.size ≤ j) (tl : 1 ≤ tr'.length ∧ tr'.length ≤ 13) (Ll : L'.length ≤ 6) (gl : ∀ x ∈ L', x.1.legs.length ≤ 10) (cur : Cur w0 b k' W') (hbl : b < bl) :
    Spo w0 w b bl B0 O k' tr' gap L' vt' vT' W' := by
  subst hv hT
  have hlt := h.lt
  have hb : W'.heap[bl]? = W.heap[bl]? := hs bl (by omega) (fun e => (h.blk bl e).1 rfl) (by omega)
  have hb1 : W'.heap[bl + 1]? = W.heap[bl + 1]? := hs (bl + 1) (by omega) (fun e => (h.blk (bl + 1) e).2.1 rfl) (by omega)
  have cc : ∀ o u, W.cell? ⟨bl, o, none⟩ = some u → W'.cell? ⟨bl, o, none⟩ = some u := fun o u hu => (World.cell?_of_block (w := W) (w' := W') (a := ⟨bl, o, none⟩) hb).trans hu
  have zz : ∀ o, W.frozen? ⟨bl, o, none⟩ = false → W'.frozen? ⟨bl, o, none⟩ = false := fun o hu => (World.frozen?_of_block (w := W) (w' := W') (a := ⟨bl, o, none⟩) hb).trans hu
  refine ⟨cc 0 _ h.c0, cc 1 _ h.c1, cc 2 _ h.c2, zz 0 h.z0, zz 1 h.z1, zz 2 h.z2, own, fun j hj => ?_, tl, Ll, gl, cur, fun j hj hjb hO => ?_, fun i hi => ?_⟩
  · rcases blk j hj with e | e
    · exact h.blk j e
    · exact ⟨by omega, by omega, Or.inr (by omega)⟩
  · rw [hs j (by omega) (fun e => by rcases (h.blk j e).2.2 with e2 | e2; exact hO e2; omega) hjb]
    exact h.only j hj hjb hO
  · obtain ⟨v, hv, hz⟩ := h.room i hi
    exact ⟨v, (World.cell?_of_block (w := W) (w' := W') (a := ⟨bl + 1, i, none⟩) hb1).trans hv, (World.frozen?_of_block (w := W) (w' := W') (a := ⟨bl + 1, i, none⟩) hb1).trans hz⟩
theorem Spo.mid {W' : World} {k' : Nat} (h : Spo w0 w b bl B0 O k tr gap L vt vT W) (hM : Mid b (b + 1) W W') (hC : Cur w0 b k' W') (hb : b < B0) (hbl : b < bl) : Spo w0 w b bl B0 O k' tr gap L vt vT W' :=
  h.upd (fun j hj _ hjb => by
    by_cases e : j < b
    · exact hM.below.block j e
    · exact hM.above j (by omega) hj) (h.own.mid hM hb) rfl rfl (fun j hj => Or.inl hj) h.tl h.Ll h.gl hC hbl
theorem Spo.later {W' : World} (h : Spo w0 w b bl B0 O k tr gap L vt vT W) (hB : Below W.heap.size W W') (hbl : b < bl) : Spo w0 w b bl B0 O k tr gap L vt vT W' :=
  h.upd (fun j hj _ _ => hB.block j hj) (h.own.later hB) rfl rfl (fun _ hj => Or.inl hj) h.tl h.Ll h.gl (h.cur.later hB) hbl
/-- a store into the box -/
theorem Spo.gap_ (h : Spo w0 w b bl B0 O k tr gap L vt vT W) (gap' : Int) (hbl : b < bl) : Spo w0 w b bl B0 O k tr gap' L vt vT (W.setCell ⟨bl, 1, none⟩ (.int .i64 gap')) := by
  exact ⟨(cell_set_ne (by omega)).trans h.c0, World.cell?_setCell_same _ _ _ h.c1, (cell_set_ne (by omega)).trans h.c2, (World.frozen?_setCell ..).trans h.z0, (World.frozen?_setCell ..).trans h.z1, (World.frozen?_setCell ..).trans h.z2,
    h.own.keep (fun j hj => Below.heap_setCell W _ _ j (h.blk j hj).1), h.blk, h.tl, h.Ll, h.gl, h.cur.set _ hbl _, fun j hj hjb hO => (Below.heap_setCell W _ _ j (by show j ≠ bl; omega)).trans (h.only j hj hjb hO), h.room.set _ _⟩
theorem Spo.tracks {W' : World} {tr' : List Int} {vt' : Value} (h : Spo w0 w b bl B0 O k tr gap L vt vT W) (hs : ∀ j, j < W.heap.size → ¬ Blk vt vT L j → W'.heap[j]? = W.heap[j]?) (own : LOwn B0 W' tr' L vt' vT) (hv : ∀ j, vt'.ownBlock = some j → vt.ownBlock = some j ∨ W.heap.size ≤ j) (tl : 1 ≤ tr'.length ∧ tr'.length ≤ 13) (cur : Cur w0 b k W') (hbl : b < bl) :
    Spo w0 w b bl B0 O k tr' gap L vt' vT (W'.setCell ⟨bl, 0, none⟩ vt') := by
  have hlt := h.lt
  have hb : W'.heap[bl]? = W.heap[bl]? := hs bl (by omega) (fun e => (h.blk bl e).1 rfl)
  have hb1 : W'.heap[bl + 1]? = W.heap[bl + 1]? := hs (bl + 1) (by omega) (fun e => (h.blk (bl + 1) e).2.1 rfl)
  have cc : ∀ o u, W.cell? ⟨bl, o, none⟩ = some u → W'.cell? ⟨bl, o, none⟩ = some u := fun o u hu => (World.cell?_of_block (w := W) (w' := W') (a := ⟨bl, o, none⟩) hb).trans hu
  have zz : ∀ o, W.frozen? ⟨bl, o, none⟩ = false → W'.frozen? ⟨bl, o, none⟩ = false := fun o hu => (World.frozen?_of_block (w := W) (w' := W') (a := ⟨bl, o, none⟩) hb).trans hu
  have hblk : ∀ j, Blk vt' vT L j → j ≠ bl ∧ j ≠ bl + 1 ∧ (O j ∨ bl ≤ j) := fun j hj => by
    have : Blk vt vT L j ∨ W.heap.size ≤ j := by
      rcases hj with hj | hj
      · rcases hv j hj with e | e
        · exact Or.inl (Or.inl e)
        · exact Or.inr e
      · exact Or.inl (Or.inr hj)
    rcases this with e | e
    · exact h.blk j e
    · exact ⟨by omega, by omega, Or.inr (by omega)⟩
  refine ⟨World.cell?_setCell_same _ _ _ (cc 0 _ h.c0), (cell_set_ne (by omega)).trans (cc 1 _ h.c1), (cell_set_ne (by omega)).trans (cc 2 _ h.c2), (World.frozen?_setCell ..).trans (zz 0 h.z0), (World.frozen?_setCell ..).trans (zz 1 h.z1), (World.frozen?_setCell ..).trans (zz 2 h.z2),
    own.keep (fun j hj => Below.heap_setCell W' _ _ j (hblk j hj).1), hblk, tl, h.Ll, h.gl, cur.set _ hbl _, fun j hj hjb hO => ?_, ?_⟩
  · rw [Below.heap_setCell W' _ _ j (by show j ≠ bl; omega), hs j (by omega) (fun e => by rcases (h.blk j e).2.2 with e2 | e2; exact hO e2; omega)]
    exact h.only j hj hjb hO
  · refine Room.set (fun i hi => ?_) _ _
    obtain ⟨v, hv, hz⟩ := h.room i hi
    exact ⟨v, (World.cell?_of_block (w := W) (w' := W') (a := ⟨bl + 1, i, none⟩) hb1).trans hv, (World.frozen?_of_block (w := W) (w' := W') (a := ⟨bl + 1, i, none⟩) hb1).trans hz⟩
theorem Spo.trains {W' : World} {L' : List TrV} {vT' : Value} (h : Spo w0 w b bl B0 O k tr gap L vt vT W) (hs : ∀ j, j < W.heap.size → ¬ Blk vt vT L j → W'.heap[j]? = W.heap[j]?) (own : LOwn B0 W' tr L' vt vT') (hv : ∀ j, Blk vt vT' L' j → Blk vt vT L j ∨ bl + 2 ≤ j) (Ll : L'.length ≤ 6) (gl : ∀ x ∈ L', x.1.legs.length ≤ 10) (cur : Cur w0 b k W') (hbl : b < bl) :
    Spo w0 w b bl B0 O k tr gap L' vt vT' (W'.setCell ⟨bl, 2, none⟩ vT') := by
  have hlt := h.lt
  have hb : W'.heap[bl]? = W.heap[bl]? := hs bl (by omega) (fun e => (h.blk bl e).1 rfl)
  have hb1 : W'.heap[bl + 1]? = W.heap[bl + 1]? := hs (bl + 1) (by omega) (fun e => (h.blk (bl + 1) e).2.1 rfl)
  have cc : ∀ o u, W.cell? ⟨bl, o, none⟩ = some u → W'.cell? ⟨bl, o, none⟩ = some u := fun o u hu => (World.cell?_of_block (w := W) (w' := W') (a := ⟨bl, o, none⟩) hb).trans hu
  have zz : ∀ o, W.frozen? ⟨bl, o, none⟩ = false → W'.frozen? ⟨bl, o, none⟩ = false := fun o hu => (World.frozen?_of_block (w := W) (w' := W') (a := ⟨bl, o, none⟩) hb).trans hu
  have hblk : ∀ j, Blk vt vT' L' j → j ≠ bl ∧ j ≠ bl + 1 ∧ (O j ∨ bl ≤ j) := fun j hj => by
    rcases hv j hj with e | e
    · exact h.blk j e
    · exact ⟨by omega, by omega, Or.inr (by omega)⟩
  refine ⟨(cell_set_ne (by omega)).trans (cc 0 _ h.c0), (cell_set_ne (by omega)).trans (cc 1 _ h.c1), World.cell?_setCell_same _ _ _ (cc 2 _ h.c2), (World.frozen?_setCell ..).trans (zz 0 h.z0), (World.frozen?_setCell ..).trans (zz 1 h.z1), (World.frozen?_setCell ..).trans (zz 2 h.z2),
    own.keep (fun j hj => Below.heap_setCell W' _ _ j (hblk j hj).1), hblk, h.tl, Ll, gl, cur.set _ hbl _, fun j hj hjb hO => ?_, ?_⟩
  · rw [Below.heap_setCell W' _ _ j (by show j ≠ bl; omega), hs j (by omega) (fun e => by rcases (h.blk j e).2.2 with e2 | e2; exact hO e2; omega)]
    exact h.only j hj hjb hO
  · refine Room.set (fun i hi => ?_) _ _
    obtain ⟨v, hv, hz⟩ := h.room i hi
    exact ⟨v, (World.cell?_of_block (w := W) (w' := W') (a := ⟨bl + 1, i, none⟩) hb1).trans hv, (World.frozen?_of_block (w := W) (w' := W') (a := ⟨bl + 1, i, none⟩) hb1).trans hz⟩
end
end Go.Proofs.YtgdljgjamafpiaaGreatDoor

namespace Go.Proofs.YtgdljgjamafpiaaGreatDoor
open Go.RowKit

theorem split_at {α : Type} : ∀ (L : List α) (i : Nat), i < L.length → ∃ A x B, L = A ++ x :: B ∧ A.length = i
  | x :: L, 0, _ => ⟨[], x, L, rfl, rfl⟩
  | y :: L, i + 1, h => by
    obtain ⟨A, x, B, e, hl⟩ := split_at L i (by simpa using h)
    exact ⟨y :: A, x, B, by rw [e]; rfl, by simp [hl]⟩
section
variable {w0 w : World} {b bl B0 k : Nat} {O : Nat → Prop} {tr : List Int} {gap : Int} {L : List TrV} {vt vT : Value} {W : World}
theorem Spo.trackPut {g n c : Nat} (h : Spo w0 w b bl B0 O k tr gap L (.slice (some ⟨g, 0, none⟩) n c) vT W) (hn : n = tr.length) (i : Nat) (z : Int) (hb : b < B0) (hbl : b < bl) :
    Spo w0 w b bl B0 O k (tr.set i z) gap L (.slice (some ⟨g, 0, none⟩) n c) vT (W.setCell ⟨g, i, none⟩ (.int .i64 z)) := by
  subst hn
  have hg : Blk (.slice (some ⟨g, 0, none⟩) tr.length c) vT L g := Or.inl rfl
  have hg0 := (h.own.blk hg).1
  refine h.upd (fun j _ hj _ => Below.heap_setCell W _ _ j (fun e => hj (by rw [e]; exact hg))) ⟨?_, ?_, h.own.off, h.own.offs⟩ rfl rfl (fun j hj => Or.inl hj) (by rw [List.length_set]; exact h.tl) h.Ll h.gl (h.cur.set _ (by show b < g; omega) _) hbl
  · have e : intCells (tr.set i z) = (intCells tr).set i (.int .i64 z) := by simp [intCells, List.map_set]
    rw [List.length_set, e]
    exact ownsRow_put h.own.ints i _
  · refine h.own.trs.same (fun j hj => Below.heap_setCell W _ _ j (fun e => ?_))
    rcases hj with hj | ⟨x, hx, hj⟩
    · exact h.own.off g rfl (by rw [hj, e])
    · exact h.own.offs x hx g rfl (by rw [hj, e])
theorem Spo.cut {g n c : Nat} (h : Spo w0 w b bl B0 O k tr gap L (.slice (some ⟨g, 0, none⟩) n c) vT W) (hn : n = tr.length) (hbl : b < bl) :
    Spo w0 w b bl B0 O k (tr.take 1) gap L (.slice (some ⟨g, 0, none⟩) 1 c) vT (W.setCell ⟨bl, 0, none⟩ (.slice (some ⟨g, 0, none⟩) 1 c)) := by
  subst hn
  have htl := h.tl
  have hlen : (tr.take 1).length = 1 := by rw [List.length_take]; omega
  refine h.tracks (fun j _ _ => rfl) ⟨?_, h.own.trs, h.own.off, h.own.offs⟩ (fun j hj => Or.inl hj) (by omega) h.cur hbl
  rw [hlen]
  obtain ⟨hl, hx | ⟨g', cap', cur, hv, h1, h2, h3, h4, h5, h6⟩⟩ := h.own.ints
  · cases hx.1
  · cases hv
    refine ⟨by rw [intCells_len, hlen], Or.inr ⟨g, c, cur, rfl, h1, h2, by omega, h4, h5, ?_⟩⟩
    have e : intCells (tr.take 1) = (intCells tr).take 1 := by simp [intCells, List.map_take]
    rw [e, ← h6, List.take_take]
    congr 1
    omega
theorem Spo.trackAdd {o : Obj} {W1 : World} {z : Int} {v' : Value} (h : Spo w0 w b bl B0 O k tr gap L vt vT W) (ho : W1.ownsRow B0 3 1 v' (tr.length + 1) (intCells tr ++ [.int .i64 z])) (hg : (W.alloc o).grownBy W1 vt.ownBlock) (hloc : v'.ownBlock = vt.ownBlock ∨ v'.ownBlock = some (W.alloc o).heap.size) (ht : tr.length < 13) (hb : b < B0) (hbl : b < bl) :
    Spo w0 w b bl B0 O k (tr ++ [z]) gap L v' vT (W1.setCell ⟨bl, 0, none⟩ v') := by
  have hA := h.own.later (b1 W o)
  have hrow : ∀ j, vt.ownBlock = some j → b < j := fun j hj => by have := (h.own.ints.lt j hj).1; omega
  refine h.tracks (fun j hj hB => ?_) ⟨by rw [intCells_snoc, List.length_append]; exact ho, ?_, ?_, fun x hx => ?_⟩ (fun j hj => ?_) (by rw [List.length_append]; simp; omega) ((h.cur.later (b1 W o)).grown hg hrow) hbl
  · rw [hg.block j (by rw [World.size_alloc]; omega) (fun e => hB (Or.inl e.symm))]
    exact (b1 W o).block j hj
  · refine hA.trs.same (fun j hj => hg.block j (hA.trs.lt hj).2 (fun e => ?_))
    rcases hj with hj | ⟨x, hx, hj⟩
    · exact h.own.off j e.symm hj
    · exact h.own.offs x hx j e.symm hj
  · exact (hA.off.symm.loc (fun j hj => (hA.trs.lt (Or.inl hj)).2) hloc).symm
  · exact ((hA.offs x hx).symm.loc (fun j hj => (hA.trs.lt (Or.inr ⟨x, hx, hj⟩)).2) hloc).symm
  · rcases hloc with e | e
    · exact Or.inl (e.symm.trans hj)
    · rw [e] at hj; cases hj; exact Or.inr (by rw [World.size_alloc]; omega)
theorem Spo.trainAdd {o : Obj} {W1 : World} {v' : Value} (h : Spo w0 w b bl B0 O k tr gap L vt vT W)
    (ho : W1.ownsRow B0 63 5 v' (L.length + 1) (trCells L ++ [.int .i64 0, .int .i64 0, .int .i64 0, .int .i64 1, .slice (some ⟨W.heap.size, 0, none⟩) 1 1])) (hg : ((W.alloc (.cells #[.int .i64 1, .int .i64 5, .int .i64 0] 68)).alloc o).grownBy W1 vT.ownBlock) (hloc : v'.ownBlock = vT.ownBlock ∨ v'.ownBlock = some ((W.alloc (.cells #[.int .i64 1, .int .i64 5, .int .i64 0] 68)).alloc o).heap.size) (ht : L.length < 6) (hb : b < B0) (hB0 : B0 ≤ bl) (hbl : b < bl) :
    Spo w0 w b bl B0 O k tr gap (L ++ [(⟨0, 0, 0, 1, [⟨1, 5, 0⟩]⟩, .slice (some ⟨W.heap.size, 0, none⟩) 1 1)]) vt v' (W1.setCell ⟨bl, 2, none⟩ v') := by
  have hlt := h.lt
  have hA := (h.own.later (b1 W (.cells #[.int .i64 1, .int .i64 5, .int .i64 0] 68))).later (b1 _ o)
  have hrow : ∀ j, vT.ownBlock = some j → b < j := fun j hj => by have := (h.own.trs.lt (Or.inl hj)).1; omega
  have hlegs : OwnLegs B0 ((W.alloc (.cells #[.int .i64 1, .int .i64 5, .int .i64 0] 68)).alloc o) (.slice (some ⟨W.heap.size, 0, none⟩) 1 1) [⟨1, 5, 0⟩] := by
    refine ⟨rfl, Or.inr ⟨W.heap.size, 1, #[.int .i64 1, .int .i64 5, .int .i64 0], rfl, by omega, ?_, Nat.le_refl _, by decide, rfl, rfl⟩⟩
    rw [(b1 (W.alloc (.cells #[.int .i64 1, .int .i64 5, .int .i64 0] 68)) o).block W.heap.size (by rw [World.size_alloc]; omega)]
    show (W.heap.push _)[W.heap.size]? = _
    rw [Array.getElem?_push_size]
  have hnew : ∀ j, (Value.slice (some ⟨W.heap.size, 0, none⟩) 1 1).ownBlock = some j → j = W.heap.size := fun j hj => by simp only [Value.ownBlock, Option.some.injEq] at hj; exact hj.symm
  have hsz : ((W.alloc (.cells #[.int .i64 1, .int .i64 5, .int .i64 0] 68)).alloc o).heap.size = W.heap.size + 1 + 1 := by rw [World.size_alloc, World.size_alloc]
  refine h.trains (fun j hj hB => ?_) (hA.snoc (t := ⟨0, 0, 0, 1, [⟨1, 5, 0⟩]⟩) ho hlegs (fun j hj => ?_) hg hloc) (fun j hj => ?_) (by rw [List.length_append]; simp; omega) (fun x hx => ?_) (((h.cur.later (b1 W _)).later (b1 _ o)).grown hg hrow) hbl
  · rw [hg.block j (by omega) (fun e => hB (Or.inr (Or.inl e.symm))), (b1 _ o).block j (by rw [World.size_alloc]; omega)]
    exact (b1 W _).block j hj
  · have := hnew j hj
    refine ⟨fun e => ?_, fun e => ?_, fun x hx e => ?_⟩
    · have := (h.own.ints.lt j e).2; omega
    · have := (h.own.trs.lt (Or.inl e)).2; omega
    · have := (h.own.trs.lt (Or.inr ⟨x, hx, e⟩)).2; omega
  · rcases hj with hj | hj | ⟨x, hx, hj⟩
    · exact Or.inl (Or.inl hj)
    · rcases hloc with e | e
      · exact Or.inl (Or.inr (Or.inl (e.symm.trans hj)))
      · rw [e, hsz] at hj; cases hj; exact Or.inr (by omega)
    · rcases List.mem_append.1 hx with hx | hx
      · exact Or.inl (Or.inr (Or.inr ⟨x, hx, hj⟩))
      · rw [List.mem_singleton] at hx; subst hx; have := hnew j hj; exact Or.inr (by omega)
  · rcases List.mem_append.1 hx with hx | hx
    · exact h.gl x hx
    · rw [List.mem_singleton] at hx; subst hx; show 1 ≤ 10; omega
theorem Spo.trainPut {A B : List TrV} {x x' : TrV} {g n c f : Nat} {v : Value} (h : Spo w0 w b bl B0 O k tr gap (A ++ x :: B) vt (.slice (some ⟨g, 0, none⟩) n c) W) (hn : n = (A ++ x :: B).length) (hf : f < 5) (hx : (trCells [x]).set f v = trCells [x']) (hx' : (x'.2 = x.2 ∧ x'.1.legs = x.1.legs) ∨ (x'.2 = .slice none 0 0 ∧ x'.1.legs = [])) (hb : b < B0) (hbl : b < bl) :
    Spo w0 w b bl B0 O k tr gap (A ++ x' :: B) vt (.slice (some ⟨g, 0, none⟩) n c) (W.setCell ⟨g, A.length * 5 + f, none⟩ v) := by
  have hlen : (A ++ x' :: B).length = (A ++ x :: B).length := by simp
  have hg : Blk vt (.slice (some ⟨g, 0, none⟩) n c) (A ++ x :: B) g := Or.inr (Or.inl rfl)
  have hg0 := (h.own.blk hg).1
  have hsub : ∀ j, x'.2.ownBlock = some j → x.2.ownBlock = some j := fun j hj => by
    rcases hx' with e | e
    · rw [← e.1]; exact hj
    · rw [e.1] at hj; cases hj
  have hlegs : OwnLegs B0 W x'.2 x'.1.legs := by
    rcases hx' with e | e
    · rw [e.1, e.2]; exact h.own.trs.legs x (by simp)
    · rw [e.1, e.2]; exact World.ownsRow_nil _ _ _ _
  have hmem : ∀ y ∈ A ++ x' :: B, ∀ j, y.2.ownBlock = some j → ∃ z ∈ A ++ x :: B, z.2.ownBlock = some j := fun y hy j hj => by
    rcases List.mem_append.1 hy with hy | hy
    · exact ⟨y, by simp [hy], hj⟩
    · rcases List.mem_cons.1 hy with rfl | hy
      · exact ⟨x, by simp, hsub j hj⟩
      · exact ⟨y, by simp [hy], hj⟩
  have hT := h.own.trs
  rw [hn] at hT
  have hput := hT.put hf hx hsub hlegs
  rw [hlen, ← hn] at hput
  refine h.upd (fun j _ hj _ => Below.heap_setCell W _ _ j (fun e => hj (by rw [e]; exact hg))) ⟨?_, hput, h.own.off, fun y hy j hj e => ?_⟩ rfl rfl (fun j hj => Or.inl ?_) h.tl (by rw [hlen]; exact h.Ll) (fun y hy => ?_) (h.cur.set _ (by show b < g; omega) _) hbl
  · exact ownsRow_same h.own.ints (fun j hj => Below.heap_setCell W _ _ j (fun e => h.own.off j hj (by rw [e]; rfl)))
  · obtain ⟨z, hz, hzj⟩ := hmem y hy j e
    exact h.own.offs z hz j hj hzj
  · rcases hj with hj | hj | ⟨y, hy, hj⟩
    · exact Or.inl hj
    · exact Or.inr (Or.inl hj)
    · exact Or.inr (Or.inr (hmem y hy j hj))
  · rcases List.mem_append.1 hy with hy | hy
    · exact h.gl y (by simp [hy])
    · rcases List.mem_cons.1 hy with rfl | hy
      · rcases hx' with e | e
        · rw [e.2]; exact h.gl x (by simp)
        · rw [e.2]; exact Nat.zero_le _
      · exact h.gl y (by simp [hy])
theorem Spo.legPut {A B : List TrV} {t : TrL} {LA LB : List LegD} {y y' : LegD} {g n lc f : Nat} {u : Value} (h : Spo w0 w b bl B0 O k tr gap (A ++ (t, .slice (some ⟨g, 0, none⟩) n lc) :: B) vt vT W) (hn : n = t.legs.length) (ht : t.legs = LA ++ y :: LB) (hf : f < 3) (hx : (legCells [y]).set f u = legCells [y']) (hb : b < B0) (hbl : b < bl) :
    Spo w0 w b bl B0 O k tr gap (A ++ ({ t with legs := LA ++ y' :: LB }, .slice (some ⟨g, 0, none⟩) n lc) :: B) vt vT (W.setCell ⟨g, LA.length * 3 + f, none⟩ u) := by
  subst hn
  have hg : Blk vt vT (A ++ (t, .slice (some ⟨g, 0, none⟩) t.legs.length lc) :: B) g := Or.inr (Or.inr ⟨(t, .slice (some ⟨g, 0, none⟩) t.legs.length lc), by simp, rfl⟩)
  have hg0 := (h.own.blk hg).1
  have hll : (LA ++ y' :: LB).length = t.legs.length := by rw [ht]; simp
  have hmem : ∀ z ∈ A ++ ({ t with legs := LA ++ y' :: LB }, Value.slice (some ⟨g, 0, none⟩) t.legs.length lc) :: B, ∃ z' ∈ A ++ (t, .slice (some ⟨g, 0, none⟩) t.legs.length lc) :: B, z'.2 = z.2 ∧ z'.1.legs.length = z.1.legs.length := fun z hz => by
    rcases List.mem_append.1 hz with hz | hz
    · exact ⟨z, by simp [hz], rfl, rfl⟩
    · rcases List.mem_cons.1 hz with rfl | hz
      · exact ⟨(t, .slice (some ⟨g, 0, none⟩) t.legs.length lc), by simp, rfl, hll.symm⟩
      · exact ⟨z, by simp [hz], rfl, rfl⟩
  refine h.upd (fun j _ hj _ => Below.heap_setCell W _ _ j (fun e => hj (by rw [e]; exact hg))) ⟨?_, h.own.trs.legput ht hf hx, h.own.off, fun z hz => ?_⟩ rfl rfl (fun j hj => Or.inl ?_) h.tl (by have := h.Ll; simpa using this) (fun z hz => ?_) (h.cur.set _ (by show b < g; omega) _) hbl
  · exact ownsRow_same h.own.ints (fun j hj => Below.heap_setCell W _ _ j (fun e => h.own.offs (t, .slice (some ⟨g, 0, none⟩) t.legs.length lc) (by simp) j hj (by rw [e]; rfl)))
  · obtain ⟨z', hz', e1, _⟩ := hmem z hz
    rw [← e1]
    exact h.own.offs z' hz'
  · rcases hj with hj | hj | ⟨z, hz, hj⟩
    · exact Or.inl hj
    · exact Or.inr (Or.inl hj)
    · obtain ⟨z', hz', e1, _⟩ := hmem z hz
      exact Or.inr (Or.inr ⟨z', hz', by rw [e1]; exact hj⟩)
  · obtain ⟨z', hz', _, e2⟩ := hmem z hz
    rw [← e2]
    exact h.gl z' hz'
end
end Go.Proofs.YtgdljgjamafpiaaGreatDoor

namespace Go.Proofs.YtgdljgjamafpiaaGreatDoor
open Go.RowKit

/-- the greatest piece of a code that begins with a region -/
def subAtC (id : Nat) : Code → Option Code
  | .region i o d => if i = id then some (.region i o d) else none
  | .seq a b => if firstRegC a = some id then some (.seq a b) else match subAtC id a with
    | some c => some c
    | none => subAtC id b
  | .block n c => if firstRegC c = some id then some (.block n c) else subAtC id c
  | .scope c => if firstRegC c = some id then some (.scope c) else subAtC id c
  | .loop c => if firstRegC c = some id then some (.loop c) else subAtC id c
  | .cond _ a b => match subAtC id a with
    | some c => some c
    | none => subAtC id b
  | _ => none
noncomputable def spoilC (id : Nat) : Code := ((Tryz.f15.body.bind (subAtC id)).getD .skip)
/-- what a spoiling answers -/
def SpoilPost (w0 w : World) (b B0 : Nat) (O : Nat → Prop) (k : Nat) (e : Ending) (w' : World) : Prop :=
  ∃ (tr : List Int) (gap : Int) (L : List TrV) (vt vT : Value), e = .returned (.agg #[vt, .int .i64 gap, vT]) ∧ LOwn B0 w' tr L vt vT ∧ (1 ≤ tr.length ∧ tr.length ≤ 13) ∧ L.length ≤ 6 ∧ (∀ x ∈ L, x.1.legs.length ≤ 10) ∧ Cur w0 b k w' ∧ (∀ j, Blk vt vT L j → O j ∨ w.heap.size ≤ j) ∧ (∀ j, j < w.heap.size → j ≠ b → ¬ O j → w'.heap[j]? = w.heap[j]?) ∧ w.heap.size ≤ w'.heap.size
theorem Spo.done {w0 w : World} {b bl B0 k k' : Nat} {O : Nat → Prop} {tr : List Int} {gap : Int} {L : List TrV} {vt vT : Value} {W : World} (h : Spo w0 w b bl B0 O k tr gap L vt vT W) (hbl : bl = w.heap.size) (hb : b < bl) (hk : k ≤ k') (x0 x1 x2 : Value) :
    SpoilPost w0 w b B0 O k' (.returned (.agg #[vt, .int .i64 gap, vT])) (((W.setCell ⟨bl + 1, 0, none⟩ x0).setCell ⟨bl + 1, 1, none⟩ x1).setCell ⟨bl + 1, 2, none⟩ x2) := by
  have hlt := h.lt
  have hs : ∀ j, j ≠ bl + 1 → (((W.setCell ⟨bl + 1, 0, none⟩ x0).setCell ⟨bl + 1, 1, none⟩ x1).setCell ⟨bl + 1, 2, none⟩ x2).heap[j]? = W.heap[j]? := fun j hj => (Below.heap_setCell _ _ _ j hj).trans ((Below.heap_setCell _ _ _ j hj).trans (Below.heap_setCell _ _ _ j hj))
  refine ⟨tr, gap, L, vt, vT, rfl, h.own.keep (fun j hj => hs j (h.blk j hj).2.1), h.tl, h.Ll, h.gl, (((h.cur.more hk).set _ (by show b < bl + 1; omega) _).set _ (by show b < bl + 1; omega) _).set _ (by show b < bl + 1; omega) _, fun j hj => by rw [← hbl]; exact (h.blk j hj).2.2, fun j hj hjb hO => ?_, ?_⟩
  · rw [hs j (by omega)]; exact h.only j (by omega) hjb hO
  · simp only [World.size_setCell]; omega
set_option maxRecDepth 20000 in
set_option maxHeartbeats 2000000 in
theorem spoil_end {s1 s2 s5 s6 s7 s8 s9 s10 s11 s12 s13 s14 s15 s16 s17 s18 s19 s20 s21 s22 s23 s24 s25 s26 s27 s28 s29 s30 s31 s32 s33 s34 s35 s36 s37 s38 s39 s40 s41 s42 s43 s44 s45 s46 s47 s48 s49 s50 s51 s52 s53 s54 s55 s56 s57 s58 s59 s60 s61 s62 s63 s64 s65 s66 s67 s68 s69 s70 s71 s72 s73 s74 s75 s76 s77 s78 s79 s80 s81 s82 s83 s84 s85 s86 s87 s88 s89 s90 s91 s92 s93 s94 s95 s96 s97 s98 s99 s100 s101 s102 s103 s104 s105 s106 s107 s108 s109 s110 s111 s112 s113 s114 s115 s116 s117 s118 s119 s120 s121 s122 s123 s124 s125 s126 s127 s128 s129 s130 s131 s132 s133 s134 s135 s136 s137 s138 s139 s140 s141 s142 s143 s144 s145 s146 s147 s148 s149 s150 s151 s152 s153 s154 s155 s156 s157 s158 s159 s160 s161 s162 s163 s164 s165 s166 s167 s168 s169 s170 s171 s172 s173 s174 s175 s176 s177 s178 s179 s180 s181 s182 s183 s184 s185 : Value} (w0 w : World) (b bl B0 k k' : Nat) (O : Nat → Prop) (tr : List Int) (gap : Int) (L : List TrV) (vt vT : Value) (W : World) (h : Spo w0 w b bl B0 O k tr gap L vt vT W) (hbl : bl = w.heap.size) (hb : b < bl) (hk : k ≤ k') :
    Code.wp Tryz.prog (spoilC 37) (bodyPost Tryz.prog Tryz.f15 (SpoilPost w0 w b B0 O k')) ⟨(.pointer (some ⟨b, 0, none⟩) :: s1 :: s2 :: .pointer (some ⟨bl, 0, none⟩) :: .pointer (some ⟨bl + 1, 0, none⟩) :: s5 :: s6 :: s7 :: s8 :: s9 :: s10 :: s11 :: s12 :: s13 :: s14 :: s15 :: s16 :: s17 :: s18 :: s19 :: s20 :: s21 :: s22 :: s23 :: s24 :: s25 :: s26 :: s27 :: s28 :: s29 :: s30 :: s31 :: s32 :: s33 :: s34 :: s35 :: s36 :: s37 :: s38 :: s39 :: s40 :: s41 :: s42 :: s43 :: s44 :: s45 :: s46 :: s47 :: s48 :: s49 :: s50 :: s51 :: s52 :: s53 :: s54 :: s55 :: s56 :: s57 :: s58 :: s59 :: s60 :: s61 :: s62 :: s63 :: s64 :: s65 :: s66 :: s67 :: s68 :: s69 :: s70 :: s71 :: s72 :: s73 :: s74 :: s75 :: s76 :: s77 :: s78 :: s79 :: s80 :: s81 :: s82 :: s83 :: s84 :: s85 :: s86 :: s87 :: s88 :: s89 :: s90 :: s91 :: s92 :: s93 :: s94 :: s95 :: s96 :: s97 :: s98 :: s99 :: s100 :: s101 :: s102 :: s103 :: s104 :: s105 :: s106 :: s107 :: s108 :: s109 :: s110 :: s111 :: s112 :: s113 :: s114 :: s115 :: s116 :: s117 :: s118 :: s119 :: s120 :: s121 :: s122 :: s123 :: s124 :: s125 :: s126 :: s127 :: s128 :: s129 :: s130 :: s131 :: s132 :: s133 :: s134 :: s135 :: s136 :: s137 :: s138 :: s139 :: s140 :: s141 :: s142 :: s143 :: s144 :: s145 :: s146 :: s147 :: s148 :: s149 :: s150 :: s151 :: s152 :: s153 :: s154 :: s155 :: s156 :: s157 :: s158 :: s159 :: s160 :: s161 :: s162 :: s163 :: s164 :: s165 :: s166 :: s167 :: s168 :: s169 :: s170 :: s171 :: s172 :: s173 :: s174 :: s175 :: s176 :: s177 :: s178 :: s179 :: s180 :: s181 :: s182 :: s183 :: s184 :: s185 :: []).toArray, []⟩ W := by
  conv => arg 2; whnf
  obtain ⟨at_, ct, rfl, _⟩ := ownInts h.own.ints
  obtain ⟨aT, cT, rfl, _⟩ := h.own.trs.trains (fun x hx => by have := h.gl x hx; unfold maxLen; omega)
  have hdone := fun x0 x1 x2 => h.done hbl hb hk x0 x1 x2
  have hdone' : Hid _ := hdone
  clear hdone
  have hbl' : Hid (bl = w.heap.size) := hbl
  clear hbl
  obtain ⟨x0, e0, f0⟩ := h.room 0 (by omega)
  obtain ⟨x1, e1, f1⟩ := h.room 1 (by omega)
  obtain ⟨x2, e2, f2⟩ := h.room 2 (by omega)
  have q0 := h.c0
  have q1 := h.c1
  have q2 := h.c2
  go_wp2
  exact bodyPost_ret (v := .agg #[.slice at_ tr.length ct, .int .i64 gap, .slice aT L.length cT]) (by simp [results, Tryz.results15, go_sem, e0, e1, e2]) rfl (hdone'.out _ _ _)
end Go.Proofs.YtgdljgjamafpiaaGreatDoor


namespace Go.Proofs.YtgdljgjamafpiaaGreatDoor
open Go.RowKit

theorem row_free {w : World} {base : Nat} {e : TypeId} {size g n cap : Nat} {xs : List Value} (h : w.ownsRow base e size (.slice (some ⟨g, 0, none⟩) n cap) n xs) (i : Nat) : w.frozen? ⟨g, i, none⟩ = false := by
  obtain ⟨_, hx | ⟨g', cap', cur, hv, _, h2, _⟩⟩ := h
  · cases hx.1
  · cases hv
    simp [World.frozen?, h2]
theorem cellMid {b : Nat} {W W' : World} {j i : Nat} {v : Value} (hM : Mid b (b + 1) W W') (hj : b < j) (hc : W.cell? ⟨j, i, none⟩ = some v) : W'.cell? ⟨j, i, none⟩ = some v :=
  (World.cell?_of_block (w := W) (w' := W') (a := ⟨j, i, none⟩) (hM.above j (by omega) (ltCell hc))).trans hc
theorem three_at (W : World) (x y z : Int) (t : TypeId) (j : Nat) (hj : j < 3) : ∃ v : Int, (W.alloc (.cells #[.int .i64 x, .int .i64 y, .int .i64 z] t)).cell? ⟨W.heap.size, j, none⟩ = some (.int .i64 v) := by
  have : j = 0 ∨ j = 1 ∨ j = 2 := by omega
  rcases this with rfl | rfl | rfl
  · exact ⟨x, by simp⟩
  · exact ⟨y, by simp⟩
  · exact ⟨z, by simp⟩
set_option maxRecDepth 20000 in
set_option maxHeartbeats 4000000 in
theorem spoil_leg {s1 s2 s5 s7 s8 s9 s10 s11 s12 s13 s14 s15 s16 s17 s18 s19 s20 s21 s22 s23 s24 s25 s26 s27 s28 s29 s30 s31 s32 s33 s34 s35 s36 s37 s38 s39 s40 s41 s42 s43 s44 s45 s46 s47 s48 s49 s50 s51 s52 s53 s54 s55 s56 s57 s58 s59 s60 s61 s62 s63 s64 s65 s66 s67 s68 s69 s70 s71 s72 s73 s74 s75 s76 s77 s78 s79 s80 s81 s82 s83 s84 s85 s86 s87 s88 s89 s90 s91 s92 s93 s94 s95 s96 s97 s98 s99 s100 s101 s102 s103 s104 s105 s106 s107 s108 s109 s110 s111 s112 s113 s114 s115 s116 s117 s118 s119 s120 s121 s122 s123 s124 s125 s126 s127 s128 s129 s130 s131 s132 s133 s134 s135 s136 s137 s138 s139 s140 s141 s142 s143 s144 s145 s146 s147 s148 s149 s150 s151 s152 s153 s154 s155 s156 s157 s158 s159 s160 s161 s162 s163 s164 s165 s166 s167 s168 s169 s170 s171 s172 s173 s174 s175 s176 s177 s178 s179 s180 s181 s182 s183 s184 s185 : Value} (w0 w : World) (b bl B0 k : Nat) (O : Nat → Prop) (tr : List Int) (gap : Int) (A B : List TrV) (t : TrL) (LA LB : List LegD) (y0 : LegD) (gl lc : Nat) (vt vT : Value) (W : World) (Q : Exit → Act → World → Prop)
    (hQ : ∀ (u1 u2 u5 u6 u7 u8 u9 u10 u11 u12 u13 u14 u15 u16 u17 u18 u19 u20 u21 u22 u23 u24 u25 u26 u27 u28 u29 u30 u31 u32 u33 u34 u35 u36 u37 u38 u39 u40 u41 u42 u43 u44 u45 u46 u47 u48 u49 u50 u51 u52 u53 u54 u55 u56 u57 u58 u59 u60 u61 u62 u63 u64 u65 u66 u67 u68 u69 u70 u71 u72 u73 u74 u75 u76 u77 u78 u79 u80 u81 u82 u83 u84 u85 u86 u87 u88 u89 u90 u91 u92 u93 u94 u95 u96 u97 u98 u99 u100 u101 u102 u103 u104 u105 u106 u107 u108 u109 u110 u111 u112 u113 u114 u115 u116 u117 u118 u119 u120 u121 u122 u123 u124 u125 u126 u127 u128 u129 u130 u131 u132 u133 u134 u135 u136 u137 u138 u139 u140 u141 u142 u143 u144 u145 u146 u147 u148 u149 u150 u151 u152 u153 u154 u155 u156 u157 u158 u159 u160 u161 u162 u163 u164 u165 u166 u167 u168 u169 u170 u171 u172 u173 u174 u175 u176 u177 u178 u179 u180 u181 u182 u183 u184 u185 : Value) (k' : Nat) (L' : List TrV) (W' : World), Spo w0 w b bl B0 O k' tr gap L' vt vT W' → k' ≤ k + 4 → Q .normal ⟨(.pointer (some ⟨b, 0, none⟩) :: u1 :: u2 :: .pointer (some ⟨bl, 0, none⟩) :: .pointer (some ⟨bl + 1, 0, none⟩) :: u5 :: u6 :: u7 :: u8 :: u9 :: u10 :: u11 :: u12 :: u13 :: u14 :: u15 :: u16 :: u17 :: u18 :: u19 :: u20 :: u21 :: u22 :: u23 :: u24 :: u25 :: u26 :: u27 :: u28 :: u29 :: u30 :: u31 :: u32 :: u33 :: u34 :: u35 :: u36 :: u37 :: u38 :: u39 :: u40 :: u41 :: u42 :: u43 :: u44 :: u45 :: u46 :: u47 :: u48 :: u49 :: u50 :: u51 :: u52 :: u53 :: u54 :: u55 :: u56 :: u57 :: u58 :: u59 :: u60 :: u61 :: u62 :: u63 :: u64 :: u65 :: u66 :: u67 :: u68 :: u69 :: u70 :: u71 :: u72 :: u73 :: u74 :: u75 :: u76 :: u77 :: u78 :: u79 :: u80 :: u81 :: u82 :: u83 :: u84 :: u85 :: u86 :: u87 :: u88 :: u89 :: u90 :: u91 :: u92 :: u93 :: u94 :: u95 :: u96 :: u97 :: u98 :: u99 :: u100 :: u101 :: u102 :: u103 :: u104 :: u105 :: u106 :: u107 :: u108 :: u109 :: u110 :: u111 :: u112 :: u113 :: u114 :: u115 :: u116 :: u117 :: u118 :: u119 :: u120 :: u121 :: u122 :: u123 :: u124 :: u125 :: u126 :: u127 :: u128 :: u129 :: u130 :: u131 :: u132 :: u133 :: u134 :: u135 :: u136 :: u137 :: u138 :: u139 :: u140 :: u141 :: u142 :: u143 :: u144 :: u145 :: u146 :: u147 :: u148 :: u149 :: u150 :: u151 :: u152 :: u153 :: u154 :: u155 :: u156 :: u157 :: u158 :: u159 :: u160 :: u161 :: u162 :: u163 :: u164 :: u165 :: u166 :: u167 :: u168 :: u169 :: u170 :: u171 :: u172 :: u173 :: u174 :: u175 :: u176 :: u177 :: u178 :: u179 :: u180 :: u181 :: u182 :: u183 :: u184 :: u185 :: []).toArray, []⟩ W')
    (h : Spo w0 w b bl B0 O k tr gap (A ++ (t, .slice (some ⟨gl, 0, none⟩) t.legs.length lc) :: B) vt vT W) (ht : t.legs = LA ++ y0 :: LB) (hk : k ≤ 9000) (hb : b < B0) (hbl : b < bl) :
    Code.wp Tryz.prog (spoilC 8) Q ⟨(.pointer (some ⟨b, 0, none⟩) :: s1 :: s2 :: .pointer (some ⟨bl, 0, none⟩) :: .pointer (some ⟨bl + 1, 0, none⟩) :: s5 :: .pointer (some ⟨gl, LA.length * 3, none⟩) :: s7 :: s8 :: s9 :: s10 :: s11 :: s12 :: s13 :: s14 :: s15 :: s16 :: s17 :: s18 :: s19 :: s20 :: s21 :: s22 :: s23 :: s24 :: s25 :: s26 :: s27 :: s28 :: s29 :: s30 :: s31 :: s32 :: s33 :: s34 :: s35 :: s36 :: s37 :: s38 :: s39 :: s40 :: s41 :: s42 :: s43 :: s44 :: s45 :: s46 :: s47 :: s48 :: s49 :: s50 :: s51 :: s52 :: s53 :: s54 :: s55 :: s56 :: s57 :: s58 :: s59 :: s60 :: s61 :: s62 :: s63 :: s64 :: s65 :: s66 :: s67 :: s68 :: s69 :: s70 :: s71 :: s72 :: s73 :: s74 :: s75 :: s76 :: s77 :: s78 :: s79 :: s80 :: s81 :: s82 :: s83 :: s84 :: s85 :: s86 :: s87 :: s88 :: s89 :: s90 :: s91 :: s92 :: s93 :: s94 :: s95 :: s96 :: s97 :: s98 :: s99 :: s100 :: s101 :: s102 :: s103 :: s104 :: s105 :: s106 :: s107 :: s108 :: s109 :: s110 :: s111 :: s112 :: s113 :: s114 :: s115 :: s116 :: s117 :: s118 :: s119 :: s120 :: s121 :: s122 :: s123 :: s124 :: s125 :: s126 :: s127 :: s128 :: s129 :: s130 :: s131 :: s132 :: s133 :: s134 :: s135 :: s136 :: s137 :: s138 :: s139 :: s140 :: s141 :: s142 :: s143 :: s144 :: s145 :: s146 :: s147 :: s148 :: s149 :: s150 :: s151 :: s152 :: s153 :: s154 :: s155 :: s156 :: s157 :: s158 :: s159 :: s160 :: s161 :: s162 :: s163 :: s164 :: s165 :: s166 :: s167 :: s168 :: s169 :: s170 :: s171 :: s172 :: s173 :: s174 :: s175 :: s176 :: s177 :: s178 :: s179 :: s180 :: s181 :: s182 :: s183 :: s184 :: s185 :: []).toArray, []⟩ W := by
  conv => arg 2; whnf
  have hQ' : Hid _ := hQ
  clear hQ
  obtain ⟨at_, ct, rfl, _⟩ := ownInts h.own.ints
  have q0 := h.c0
  have htl := h.tl
  have hlt := h.lt
  have hglb : b < gl := by have := (h.own.blk (j := gl) (Or.inr (Or.inr ⟨(t, .slice (some ⟨gl, 0, none⟩) t.legs.length lc), by simp, rfl⟩))).1; omega
  have ht' : Hid (t.legs = LA ++ y0 :: LB) := ht
  have hcell : ∀ V k', Spo w0 w b bl B0 O k' tr gap (A ++ (t, .slice (some ⟨gl, 0, none⟩) t.legs.length lc) :: B) (.slice at_ tr.length ct) vT V → (V.cell? ⟨gl, LA.length * 3, none⟩ = some (.int .i64 y0.to) ∧ V.cell? ⟨gl, LA.length * 3 + 1, none⟩ = some (.int .i64 y0.run) ∧ V.cell? ⟨gl, LA.length * 3 + 2, none⟩ = some (.int .i64 y0.stay)) ∧ ∀ i, V.frozen? ⟨gl, i, none⟩ = false := fun V k' hV => by
    have hL := hV.own.trs.legs (t, .slice (some ⟨gl, 0, none⟩) t.legs.length lc) (by simp)
    have hll : t.legs.length = LA.length + (LB.length + 1) := by rw [ht]; simp
    have hat : t.legs[LA.length]? = some y0 := by rw [ht]; simp
    obtain ⟨a0, a1, a2⟩ := legCells_at t.legs LA.length y0 hat
    dsimp only at hL
    refine ⟨⟨?_, ?_, ?_⟩, row_free hL⟩
    · rw [World.ownsRow.cellAt hL _ (by omega)]; exact a0
    · rw [World.ownsRow.cellAt hL _ (by omega)]; exact a1
    · rw [World.ownsRow.cellAt hL _ (by omega)]; exact a2
  have hcell' : Hid _ := hcell
  clear hcell ht
  go_wp2_with (go_at_call 14; fail)
  refine (pick_any w0 b k 3 W (by omega) (by decide) h.cur).mono ?_
  rintro _ W ⟨y, rfl, _, _, hCy, hMy⟩
  replace h := h.mid hMy hCy hb hbl
  clear hCy hMy q0 hlt
  have q0 := h.c0
  have hlt := h.lt
  have hcase : y = 0 ∨ y = 1 ∨ (y ≠ 0 ∧ y ≠ 1) := by omega
  rcases hcase with rfl | rfl | ⟨hn0, hn1⟩
  · have hP := pick_any w0 b (k + 2) ((tr.length : Int) + 2) W (by omega) (by omega) h.cur
    go_wp2_with (go_at_call 14; with_reducible refine hP.mono ?_; rintro _ v1 ⟨y1, rfl, hy0, hy1, hC1, hM1⟩; have hS1 := h.mid hM1 hC1 hb hbl; obtain ⟨⟨a0, _, _⟩, hz⟩ := hcell'.out _ _ hS1; have hz0 := hz (LA.length * 3); clear hz)
    apply hQ'.out
    · exact hS1.legPut (f := 0) (y' := ⟨y1 - 1, y0.run, y0.stay⟩) rfl ht'.out (by decide) rfl hb hbl
    · omega
  · have hA := b1 W (.cells #[.int .i64 0, .int .i64 10000, .int .i64 10001] 3)
    have hSA := h.later hA hbl
    go_wp2_with (go_at_call 14; fail)
    refine (pick_any w0 b (k + 2) 3 _ (by omega) (by decide) hSA.cur).mono ?_
    rintro _ v1 ⟨y1, rfl, hy0, hy1, hC1, hM1⟩
    have hS1 := hSA.mid hM1 hC1 hb hbl
    obtain ⟨⟨_, a0, _⟩, hz⟩ := hcell'.out _ _ hS1
    have hz0 := hz (LA.length * 3 + 1)
    clear hz
    obtain ⟨j, rfl⟩ : ∃ j : Nat, y1 = j := ⟨y1.toNat, by omega⟩
    have hj3 : (j : Int) < 3 := by omega
    obtain ⟨z, hz3⟩ := three_at W 0 10000 10001 3 j (by omega)
    have hz4 := cellMid hM1 (by omega) hz3
    clear hz3
    go_wp2
    apply hQ'.out
    · exact hS1.legPut (f := 1) (y' := ⟨y0.to, z, y0.stay⟩) rfl ht'.out (by decide) rfl hb hbl
    · omega
  · have hA := b1 W (.cells #[.int .i64 (-1), .int .i64 10000, .int .i64 10001] 3)
    have hSA := h.later hA hbl
    go_wp2_with (go_at_call 14; fail)
    refine (pick_any w0 b (k + 2) 3 _ (by omega) (by decide) hSA.cur).mono ?_
    rintro _ v1 ⟨y1, rfl, hy0, hy1, hC1, hM1⟩
    have hS1 := hSA.mid hM1 hC1 hb hbl
    obtain ⟨⟨_, _, a0⟩, hz⟩ := hcell'.out _ _ hS1
    have hz0 := hz (LA.length * 3 + 2)
    clear hz
    obtain ⟨j, rfl⟩ : ∃ j : Nat, y1 = j := ⟨y1.toNat, by omega⟩
    have hj3 : (j : Int) < 3 := by omega
    obtain ⟨z, hz3⟩ := three_at W (-1) 10000 10001 3 j (by omega)
    have hz4 := cellMid hM1 (by omega) hz3
    clear hz3
    go_wp2
    apply hQ'.out
    · exact hS1.legPut (f := 2) (y' := ⟨y0.to, y0.run, z⟩) rfl ht'.out (by decide) rfl hb hbl
    · omega
end Go.Proofs.YtgdljgjamafpiaaGreatDoor


namespace Go.Proofs.YtgdljgjamafpiaaGreatDoor
open Go.RowKit

set_option maxRecDepth 20000 in
set_option maxHeartbeats 8000000 in
theorem spoil_train {s1 s2 s6 s7 s8 s9 s10 s11 s12 s13 s14 s15 s16 s17 s18 s19 s20 s21 s22 s23 s24 s25 s26 s27 s28 s29 s30 s31 s32 s33 s34 s35 s36 s37 s38 s39 s40 s41 s42 s43 s44 s45 s46 s47 s48 s49 s50 s51 s52 s53 s54 s55 s56 s57 s58 s59 s60 s61 s62 s63 s64 s65 s66 s67 s68 s69 s70 s71 s72 s73 s74 s75 s76 s77 s78 s79 s80 s81 s82 s83 s84 s85 s86 s87 s88 s89 s90 s91 s92 s93 s94 s95 s96 s97 s98 s99 s100 s101 s102 s103 s104 s105 s106 s107 s108 s109 s110 s111 s112 s113 s114 s115 s116 s117 s118 s119 s120 s121 s122 s123 s124 s125 s126 s127 s128 s129 s130 s131 s132 s133 s134 s135 s136 s137 s138 s139 s140 s141 s142 s143 s144 s145 s146 s147 s148 s149 s150 s151 s152 s153 s154 s155 s156 s157 s158 s159 s160 s161 s162 s163 s164 s165 s166 s167 s168 s169 s170 s171 s172 s173 s174 s175 s176 s177 s178 s179 s180 s181 s182 s183 s184 s185 : Value} (w0 w : World) (b bl B0 k : Nat) (O : Nat → Prop) (tr : List Int) (gap : Int) (A B : List TrV) (t : TrL) (lv : Value) (gT n cT : Nat) (vt : Value) (W : World) (Q : Exit → Act → World → Prop)
    (hQ : ∀ (u1 u2 u5 u6 u7 u8 u9 u10 u11 u12 u13 u14 u15 u16 u17 u18 u19 u20 u21 u22 u23 u24 u25 u26 u27 u28 u29 u30 u31 u32 u33 u34 u35 u36 u37 u38 u39 u40 u41 u42 u43 u44 u45 u46 u47 u48 u49 u50 u51 u52 u53 u54 u55 u56 u57 u58 u59 u60 u61 u62 u63 u64 u65 u66 u67 u68 u69 u70 u71 u72 u73 u74 u75 u76 u77 u78 u79 u80 u81 u82 u83 u84 u85 u86 u87 u88 u89 u90 u91 u92 u93 u94 u95 u96 u97 u98 u99 u100 u101 u102 u103 u104 u105 u106 u107 u108 u109 u110 u111 u112 u113 u114 u115 u116 u117 u118 u119 u120 u121 u122 u123 u124 u125 u126 u127 u128 u129 u130 u131 u132 u133 u134 u135 u136 u137 u138 u139 u140 u141 u142 u143 u144 u145 u146 u147 u148 u149 u150 u151 u152 u153 u154 u155 u156 u157 u158 u159 u160 u161 u162 u163 u164 u165 u166 u167 u168 u169 u170 u171 u172 u173 u174 u175 u176 u177 u178 u179 u180 u181 u182 u183 u184 u185 : Value) (k' : Nat) (L' : List TrV) (W' : World), Spo w0 w b bl B0 O k' tr gap L' vt (.slice (some ⟨gT, 0, none⟩) n cT) W' → k' ≤ k + 10 → Q .normal ⟨(.pointer (some ⟨b, 0, none⟩) :: u1 :: u2 :: .pointer (some ⟨bl, 0, none⟩) :: .pointer (some ⟨bl + 1, 0, none⟩) :: u5 :: u6 :: u7 :: u8 :: u9 :: u10 :: u11 :: u12 :: u13 :: u14 :: u15 :: u16 :: u17 :: u18 :: u19 :: u20 :: u21 :: u22 :: u23 :: u24 :: u25 :: u26 :: u27 :: u28 :: u29 :: u30 :: u31 :: u32 :: u33 :: u34 :: u35 :: u36 :: u37 :: u38 :: u39 :: u40 :: u41 :: u42 :: u43 :: u44 :: u45 :: u46 :: u47 :: u48 :: u49 :: u50 :: u51 :: u52 :: u53 :: u54 :: u55 :: u56 :: u57 :: u58 :: u59 :: u60 :: u61 :: u62 :: u63 :: u64 :: u65 :: u66 :: u67 :: u68 :: u69 :: u70 :: u71 :: u72 :: u73 :: u74 :: u75 :: u76 :: u77 :: u78 :: u79 :: u80 :: u81 :: u82 :: u83 :: u84 :: u85 :: u86 :: u87 :: u88 :: u89 :: u90 :: u91 :: u92 :: u93 :: u94 :: u95 :: u96 :: u97 :: u98 :: u99 :: u100 :: u101 :: u102 :: u103 :: u104 :: u105 :: u106 :: u107 :: u108 :: u109 :: u110 :: u111 :: u112 :: u113 :: u114 :: u115 :: u116 :: u117 :: u118 :: u119 :: u120 :: u121 :: u122 :: u123 :: u124 :: u125 :: u126 :: u127 :: u128 :: u129 :: u130 :: u131 :: u132 :: u133 :: u134 :: u135 :: u136 :: u137 :: u138 :: u139 :: u140 :: u141 :: u142 :: u143 :: u144 :: u145 :: u146 :: u147 :: u148 :: u149 :: u150 :: u151 :: u152 :: u153 :: u154 :: u155 :: u156 :: u157 :: u158 :: u159 :: u160 :: u161 :: u162 :: u163 :: u164 :: u165 :: u166 :: u167 :: u168 :: u169 :: u170 :: u171 :: u172 :: u173 :: u174 :: u175 :: u176 :: u177 :: u178 :: u179 :: u180 :: u181 :: u182 :: u183 :: u184 :: u185 :: []).toArray, []⟩ W')
    (h : Spo w0 w b bl B0 O k tr gap (A ++ (t, lv) :: B) vt (.slice (some ⟨gT, 0, none⟩) n cT) W) (hn : n = (A ++ (t, lv) :: B).length) (hk : k ≤ 8000) (hb : b < B0) (hbl : b < bl) :
    Code.wp Tryz.prog (spoilC 5) Q ⟨(.pointer (some ⟨b, 0, none⟩) :: s1 :: s2 :: .pointer (some ⟨bl, 0, none⟩) :: .pointer (some ⟨bl + 1, 0, none⟩) :: .pointer (some ⟨gT, A.length * 5, none⟩) :: s6 :: s7 :: s8 :: s9 :: s10 :: s11 :: s12 :: s13 :: s14 :: s15 :: s16 :: s17 :: s18 :: s19 :: s20 :: s21 :: s22 :: s23 :: s24 :: s25 :: s26 :: s27 :: s28 :: s29 :: s30 :: s31 :: s32 :: s33 :: s34 :: s35 :: s36 :: s37 :: s38 :: s39 :: s40 :: s41 :: s42 :: s43 :: s44 :: s45 :: s46 :: s47 :: s48 :: s49 :: s50 :: s51 :: s52 :: s53 :: s54 :: s55 :: s56 :: s57 :: s58 :: s59 :: s60 :: s61 :: s62 :: s63 :: s64 :: s65 :: s66 :: s67 :: s68 :: s69 :: s70 :: s71 :: s72 :: s73 :: s74 :: s75 :: s76 :: s77 :: s78 :: s79 :: s80 :: s81 :: s82 :: s83 :: s84 :: s85 :: s86 :: s87 :: s88 :: s89 :: s90 :: s91 :: s92 :: s93 :: s94 :: s95 :: s96 :: s97 :: s98 :: s99 :: s100 :: s101 :: s102 :: s103 :: s104 :: s105 :: s106 :: s107 :: s108 :: s109 :: s110 :: s111 :: s112 :: s113 :: s114 :: s115 :: s116 :: s117 :: s118 :: s119 :: s120 :: s121 :: s122 :: s123 :: s124 :: s125 :: s126 :: s127 :: s128 :: s129 :: s130 :: s131 :: s132 :: s133 :: s134 :: s135 :: s136 :: s137 :: s138 :: s139 :: s140 :: s141 :: s142 :: s143 :: s144 :: s145 :: s146 :: s147 :: s148 :: s149 :: s150 :: s151 :: s152 :: s153 :: s154 :: s155 :: s156 :: s157 :: s158 :: s159 :: s160 :: s161 :: s162 :: s163 :: s164 :: s165 :: s166 :: s167 :: s168 :: s169 :: s170 :: s171 :: s172 :: s173 :: s174 :: s175 :: s176 :: s177 :: s178 :: s179 :: s180 :: s181 :: s182 :: s183 :: s184 :: s185 :: []).toArray, []⟩ W := by
  conv => arg 2; whnf
  have hQ' : Hid _ := hQ
  clear hQ
  have hn' : Hid (n = (A ++ (t, lv) :: B).length) := hn
  clear hn
  obtain ⟨at_, ct, rfl, _⟩ := ownInts h.own.ints
  have q0 := h.c0
  have htl := h.tl
  have hlt := h.lt
  have hgTb : b < gT := by have := (h.own.blk (j := gT) (Or.inr (Or.inl rfl))).1; omega
  have hcell : ∀ V k', Spo w0 w b bl B0 O k' tr gap (A ++ (t, lv) :: B) (.slice at_ tr.length ct) (.slice (some ⟨gT, 0, none⟩) n cT) V → (V.cell? ⟨gT, A.length * 5, none⟩ = some (.int .i64 t.frm) ∧ V.cell? ⟨gT, A.length * 5 + 1, none⟩ = some (.int .i64 t.ready) ∧ V.cell? ⟨gT, A.length * 5 + 2, none⟩ = some (.int .i64 t.due) ∧ V.cell? ⟨gT, A.length * 5 + 3, none⟩ = some (.int .i64 t.weight) ∧ V.cell? ⟨gT, A.length * 5 + 4, none⟩ = some lv) ∧ ∀ i, V.frozen? ⟨gT, i, none⟩ = false := fun V k' hV => by
    have hL := hV.own.trs.row
    have hnl : n = A.length + (B.length + 1) := by rw [hn'.out]; simp
    have hat : (A ++ (t, lv) :: B)[A.length]? = some (t, lv) := by simp
    obtain ⟨a0, a1, a2, a3, a4⟩ := trCells_at (A ++ (t, lv) :: B) A.length (t, lv) hat
    rw [← hn'.out] at hL
    refine ⟨⟨?_, ?_, ?_, ?_, ?_⟩, row_free hL⟩
    · rw [World.ownsRow.cellAt hL _ (by omega)]; exact a0
    · rw [World.ownsRow.cellAt hL _ (by omega)]; exact a1
    · rw [World.ownsRow.cellAt hL _ (by omega)]; exact a2
    · rw [World.ownsRow.cellAt hL _ (by omega)]; exact a3
    · rw [World.ownsRow.cellAt hL _ (by omega)]; exact a4
  have hcell' : Hid _ := hcell
  clear hcell
  go_wp2_with (go_at_call 14; fail)
  refine (pick_any w0 b k 6 W (by omega) (by decide) h.cur).mono ?_
  rintro _ W ⟨y, rfl, _, _, hCy, hMy⟩
  replace h := h.mid hMy hCy hb hbl
  clear hCy hMy q0 hlt
  have q0 := h.c0
  have hlt := h.lt
  have hcase : y = 0 ∨ y = 1 ∨ y = 2 ∨ y = 3 ∨ y = 4 ∨ (y ≠ 0 ∧ y ≠ 1 ∧ y ≠ 2 ∧ y ≠ 3 ∧ y ≠ 4) := by omega
  rcases hcase with rfl | rfl | rfl | rfl | rfl | ⟨hn0, hn1, hn2, hn3, hn4⟩
  · have hP := pick_any w0 b (k + 2) ((tr.length : Int) + 2) W (by omega) (by omega) h.cur
    go_wp2_with (go_at_call 14; with_reducible refine hP.mono ?_; rintro _ v1 ⟨y1, rfl, hy0, hy1, hC1, hM1⟩; have hS1 := h.mid hM1 hC1 hb hbl; obtain ⟨⟨a0, _⟩, hz⟩ := hcell'.out _ _ hS1; have hz0 := hz (A.length * 5); clear hz)
    apply hQ'.out
    · exact hS1.trainPut (f := 0) (x' := ({ t with frm := y1 - 1 }, lv)) hn'.out (by decide) rfl (Or.inl ⟨rfl, rfl⟩) hb hbl
    · omega
  · have hA := b1 W (.cells #[.int .i64 (-1), .int .i64 100000, .int .i64 100001] 3)
    have hSA := h.later hA hbl
    go_wp2_with (go_at_call 14; fail)
    refine (pick_any w0 b (k + 2) 3 _ (by omega) (by decide) hSA.cur).mono ?_
    rintro _ v1 ⟨y1, rfl, hy0, hy1, hC1, hM1⟩
    have hS1 := hSA.mid hM1 hC1 hb hbl
    obtain ⟨⟨_, a0, _⟩, hz⟩ := hcell'.out _ _ hS1
    have hz0 := hz (A.length * 5 + 1)
    clear hz
    obtain ⟨j, rfl⟩ : ∃ j : Nat, y1 = j := ⟨y1.toNat, by omega⟩
    have hj3 : (j : Int) < 3 := by omega
    obtain ⟨z, hz3⟩ := three_at W (-1) 100000 100001 3 j (by omega)
    have hz4 := cellMid hM1 (by omega) hz3
    clear hz3
    go_wp2
    apply hQ'.out
    · exact hS1.trainPut (f := 1) (x' := ({ t with ready := z }, lv)) hn'.out (by decide) rfl (Or.inl ⟨rfl, rfl⟩) hb hbl
    · omega
  · have hA := b1 W (.cells #[.int .i64 (-1), .int .i64 100000, .int .i64 100001] 3)
    have hSA := h.later hA hbl
    go_wp2_with (go_at_call 14; fail)
    refine (pick_any w0 b (k + 2) 3 _ (by omega) (by decide) hSA.cur).mono ?_
    rintro _ v1 ⟨y1, rfl, hy0, hy1, hC1, hM1⟩
    have hS1 := hSA.mid hM1 hC1 hb hbl
    obtain ⟨⟨_, _, a0, _⟩, hz⟩ := hcell'.out _ _ hS1
    have hz0 := hz (A.length * 5 + 2)
    clear hz
    obtain ⟨j, rfl⟩ : ∃ j : Nat, y1 = j := ⟨y1.toNat, by omega⟩
    have hj3 : (j : Int) < 3 := by omega
    obtain ⟨z, hz3⟩ := three_at W (-1) 100000 100001 3 j (by omega)
    have hz4 := cellMid hM1 (by omega) hz3
    clear hz3
    go_wp2
    apply hQ'.out
    · exact hS1.trainPut (f := 2) (x' := ({ t with due := z }, lv)) hn'.out (by decide) rfl (Or.inl ⟨rfl, rfl⟩) hb hbl
    · omega
  · have hA := b1 W (.cells #[.int .i64 0, .int .i64 100, .int .i64 101] 3)
    have hSA := h.later hA hbl
    go_wp2_with (go_at_call 14; fail)
    refine (pick_any w0 b (k + 2) 3 _ (by omega) (by decide) hSA.cur).mono ?_
    rintro _ v1 ⟨y1, rfl, hy0, hy1, hC1, hM1⟩
    have hS1 := hSA.mid hM1 hC1 hb hbl
    obtain ⟨⟨_, _, _, a0, _⟩, hz⟩ := hcell'.out _ _ hS1
    have hz0 := hz (A.length * 5 + 3)
    clear hz
    obtain ⟨j, rfl⟩ : ∃ j : Nat, y1 = j := ⟨y1.toNat, by omega⟩
    have hj3 : (j : Int) < 3 := by omega
    obtain ⟨z, hz3⟩ := three_at W 0 100 101 3 j (by omega)
    have hz4 := cellMid hM1 (by omega) hz3
    clear hz3
    go_wp2
    apply hQ'.out
    · exact hS1.trainPut (f := 3) (x' := ({ t with weight := z }, lv)) hn'.out (by decide) rfl (Or.inl ⟨rfl, rfl⟩) hb hbl
    · omega
  · obtain ⟨⟨_, _, _, _, a4⟩, hz⟩ := hcell'.out _ _ h
    have hz0 := hz (A.length * 5 + 4)
    clear hz
    go_wp2
    apply hQ'.out
    · exact h.trainPut (f := 4) (x' := ({ t with legs := [] }, .slice none 0 0)) hn'.out (by decide) rfl (Or.inr ⟨rfl, rfl⟩) hb hbl
    · omega
  · obtain ⟨⟨_, _, _, _, a4⟩, hz⟩ := hcell'.out _ _ h
    clear hz
    have hO := h.own.trs.legs (t, lv) (by simp)
    by_cases hl0 : 0 < t.legs.length
    · obtain ⟨gl, lc, elv⟩ := Joins.ownsRow_form hO hl0
      dsimp only at elv
      subst elv
      have hl9 : t.legs.length ≤ 10 := h.gl (t, .slice (some ⟨gl, 0, none⟩) t.legs.length lc) (by simp)
      have hl0' : (0 : Int) < (t.legs.length : Int) := by omega
      have hSd := h.later (Below.refl W.heap.size W).drew hbl
      have hP := pick_any w0 b (k + 2) t.legs.length W.drew (by omega) (by omega) hSd.cur
      go_wp2
      rename_i Kz az
      go_region_held3 (fun w' => w'.cell? ⟨gT, A.length * 5 + 4, none⟩ = some (.slice (some ⟨gl, 0, none⟩) t.legs.length lc)) (first | go_keep | exact cellMid hM1 (by omega) (by assumption)) ((go_at_call 14; refine hP.mono ?_; rintro _ v1 ⟨y1, rfl, hy0, hy1, hC1, hM1⟩; obtain ⟨j, rfl⟩ : ∃ j : Nat, y1 = j := ⟨y1.toNat, by omega⟩; have hj : (j : Int) < (t.legs.length : Int) := by omega))
      have hS1 := hSd.mid hM1 hC1 hb hbl
      obtain ⟨LA, y0, LB, e, hlen⟩ := split_at t.legs j (by omega)
      subst hlen
      refine az _ _ ?_
      clear az
      refine spoil_leg w0 w b bl B0 (k + 2 + 2) O tr gap A B t LA LB y0 gl lc _ _ v1 _ ?_ hS1 e (by omega) hb hbl
      intro u1 u2 u5 u6 u7 u8 u9 u10 u11 u12 u13 u14 u15 u16 u17 u18 u19 u20 u21 u22 u23 u24 u25 u26 u27 u28 u29 u30 u31 u32 u33 u34 u35 u36 u37 u38 u39 u40 u41 u42 u43 u44 u45 u46 u47 u48 u49 u50 u51 u52 u53 u54 u55 u56 u57 u58 u59 u60 u61 u62 u63 u64 u65 u66 u67 u68 u69 u70 u71 u72 u73 u74 u75 u76 u77 u78 u79 u80 u81 u82 u83 u84 u85 u86 u87 u88 u89 u90 u91 u92 u93 u94 u95 u96 u97 u98 u99 u100 u101 u102 u103 u104 u105 u106 u107 u108 u109 u110 u111 u112 u113 u114 u115 u116 u117 u118 u119 u120 u121 u122 u123 u124 u125 u126 u127 u128 u129 u130 u131 u132 u133 u134 u135 u136 u137 u138 u139 u140 u141 u142 u143 u144 u145 u146 u147 u148 u149 u150 u151 u152 u153 u154 u155 u156 u157 u158 u159 u160 u161 u162 u163 u164 u165 u166 u167 u168 u169 u170 u171 u172 u173 u174 u175 u176 u177 u178 u179 u180 u181 u182 u183 u184 u185 k' L' W' hS' hk'
      show Q Exit.normal _ _
      apply hQ'.out
      · exact hS'
      · omega
    · obtain ⟨la, lc, elv, _⟩ := OwnLegs.legs hO
      dsimp only at elv
      subst elv
      have hl0' : ¬ ((0 : Int) < (t.legs.length : Int)) := by omega
      go_wp2
      apply hQ'.out
      · exact h
      · omega
end Go.Proofs.YtgdljgjamafpiaaGreatDoor


namespace Go.Proofs.YtgdljgjamafpiaaGreatDoor
open Go.RowKit

set_option maxRecDepth 20000 in
set_option maxHeartbeats 8000000 in
theorem spoil_def {s1 s2 s5 s6 s7 s8 s9 s10 s11 s12 s13 s14 s15 s16 s17 s18 s19 s20 s21 s22 s23 s24 s25 s26 s27 s28 s29 s30 s31 s32 s33 s34 s35 s36 s37 s38 s39 s40 s41 s42 s43 s44 s45 s46 s47 s48 s49 s50 s51 s52 s53 s54 s55 s56 s57 s58 s59 s60 s61 s62 s63 s64 s65 s66 s67 s68 s69 s70 s71 s72 s73 s74 s75 s76 s77 s78 s79 s80 s81 s82 s83 s84 s85 s86 s87 s88 s89 s90 s91 s92 s93 s94 s95 s96 s97 s98 s99 s100 s101 s102 s103 s104 s105 s106 s107 s108 s109 s110 s111 s112 s113 s114 s115 s116 s117 s118 s119 s120 s121 s122 s123 s124 s125 s126 s127 s128 s129 s130 s131 s132 s133 s134 s135 s136 s137 s138 s139 s140 s141 s142 s143 s144 s145 s146 s147 s148 s149 s150 s151 s152 s153 s154 s155 s156 s157 s158 s159 s160 s161 s162 s163 s164 s165 s166 s167 s168 s169 s170 s171 s172 s173 s174 s175 s176 s177 s178 s179 s180 s181 s182 s183 s184 s185 : Value} (w0 w : World) (b bl B0 k kk : Nat) (O : Nat → Prop) (tr : List Int) (gap : Int) (L : List TrV) (vt vT : Value) (W : World) (K : Act → World → Prop)
    (hK : ∀ (u1 u2 u5 u6 u7 u8 u9 u10 u11 u12 u13 u14 u15 u16 u17 u18 u19 u20 u21 u22 u23 u24 u25 u26 u27 u28 u29 u30 u31 u32 u33 u34 u35 u36 u37 u38 u39 u40 u41 u42 u43 u44 u45 u46 u47 u48 u49 u50 u51 u52 u53 u54 u55 u56 u57 u58 u59 u60 u61 u62 u63 u64 u65 u66 u67 u68 u69 u70 u71 u72 u73 u74 u75 u76 u77 u78 u79 u80 u81 u82 u83 u84 u85 u86 u87 u88 u89 u90 u91 u92 u93 u94 u95 u96 u97 u98 u99 u100 u101 u102 u103 u104 u105 u106 u107 u108 u109 u110 u111 u112 u113 u114 u115 u116 u117 u118 u119 u120 u121 u122 u123 u124 u125 u126 u127 u128 u129 u130 u131 u132 u133 u134 u135 u136 u137 u138 u139 u140 u141 u142 u143 u144 u145 u146 u147 u148 u149 u150 u151 u152 u153 u154 u155 u156 u157 u158 u159 u160 u161 u162 u163 u164 u165 u166 u167 u168 u169 u170 u171 u172 u173 u174 u175 u176 u177 u178 u179 u180 u181 u182 u183 u184 u185 : Value) (k' : Nat) (L' : List TrV) (W' : World), Spo w0 w b bl B0 O k' tr gap L' vt vT W' → k' ≤ k + 12 → K ⟨(.pointer (some ⟨b, 0, none⟩) :: u1 :: u2 :: .pointer (some ⟨bl, 0, none⟩) :: .pointer (some ⟨bl + 1, 0, none⟩) :: u5 :: u6 :: u7 :: u8 :: u9 :: u10 :: u11 :: u12 :: u13 :: u14 :: u15 :: u16 :: u17 :: u18 :: u19 :: u20 :: u21 :: u22 :: u23 :: u24 :: u25 :: u26 :: u27 :: u28 :: u29 :: u30 :: u31 :: u32 :: u33 :: u34 :: u35 :: u36 :: u37 :: u38 :: u39 :: u40 :: u41 :: u42 :: u43 :: u44 :: u45 :: u46 :: u47 :: u48 :: u49 :: u50 :: u51 :: u52 :: u53 :: u54 :: u55 :: u56 :: u57 :: u58 :: u59 :: u60 :: u61 :: u62 :: u63 :: u64 :: u65 :: u66 :: u67 :: u68 :: u69 :: u70 :: u71 :: u72 :: u73 :: u74 :: u75 :: u76 :: u77 :: u78 :: u79 :: u80 :: u81 :: u82 :: u83 :: u84 :: u85 :: u86 :: u87 :: u88 :: u89 :: u90 :: u91 :: u92 :: u93 :: u94 :: u95 :: u96 :: u97 :: u98 :: u99 :: u100 :: u101 :: u102 :: u103 :: u104 :: u105 :: u106 :: u107 :: u108 :: u109 :: u110 :: u111 :: u112 :: u113 :: u114 :: u115 :: u116 :: u117 :: u118 :: u119 :: u120 :: u121 :: u122 :: u123 :: u124 :: u125 :: u126 :: u127 :: u128 :: u129 :: u130 :: u131 :: u132 :: u133 :: u134 :: u135 :: u136 :: u137 :: u138 :: u139 :: u140 :: u141 :: u142 :: u143 :: u144 :: u145 :: u146 :: u147 :: u148 :: u149 :: u150 :: u151 :: u152 :: u153 :: u154 :: u155 :: u156 :: u157 :: u158 :: u159 :: u160 :: u161 :: u162 :: u163 :: u164 :: u165 :: u166 :: u167 :: u168 :: u169 :: u170 :: u171 :: u172 :: u173 :: u174 :: u175 :: u176 :: u177 :: u178 :: u179 :: u180 :: u181 :: u182 :: u183 :: u184 :: u185 :: []).toArray, []⟩ W')
    (h : Spo w0 w b bl B0 O k tr gap L vt vT W) (hbl0 : bl = w.heap.size) (hk : k ≤ 7000) (hkk : k ≤ kk) (hb : b < B0) (hbl : b < bl) :
    Code.wp Tryz.prog (spoilC 2) (Exit.inBlock 0 (Exit.then K (bodyPost Tryz.prog Tryz.f15 (SpoilPost w0 w b B0 O kk)))) ⟨(.pointer (some ⟨b, 0, none⟩) :: s1 :: s2 :: .pointer (some ⟨bl, 0, none⟩) :: .pointer (some ⟨bl + 1, 0, none⟩) :: s5 :: s6 :: s7 :: s8 :: s9 :: s10 :: s11 :: s12 :: s13 :: s14 :: s15 :: s16 :: s17 :: s18 :: s19 :: s20 :: s21 :: s22 :: s23 :: s24 :: s25 :: s26 :: s27 :: s28 :: s29 :: s30 :: s31 :: s32 :: s33 :: s34 :: s35 :: s36 :: s37 :: s38 :: s39 :: s40 :: s41 :: s42 :: s43 :: s44 :: s45 :: s46 :: s47 :: s48 :: s49 :: s50 :: s51 :: s52 :: s53 :: s54 :: s55 :: s56 :: s57 :: s58 :: s59 :: s60 :: s61 :: s62 :: s63 :: s64 :: s65 :: s66 :: s67 :: s68 :: s69 :: s70 :: s71 :: s72 :: s73 :: s74 :: s75 :: s76 :: s77 :: s78 :: s79 :: s80 :: s81 :: s82 :: s83 :: s84 :: s85 :: s86 :: s87 :: s88 :: s89 :: s90 :: s91 :: s92 :: s93 :: s94 :: s95 :: s96 :: s97 :: s98 :: s99 :: s100 :: s101 :: s102 :: s103 :: s104 :: s105 :: s106 :: s107 :: s108 :: s109 :: s110 :: s111 :: s112 :: s113 :: s114 :: s115 :: s116 :: s117 :: s118 :: s119 :: s120 :: s121 :: s122 :: s123 :: s124 :: s125 :: s126 :: s127 :: s128 :: s129 :: s130 :: s131 :: s132 :: s133 :: s134 :: s135 :: s136 :: s137 :: s138 :: s139 :: s140 :: s141 :: s142 :: s143 :: s144 :: s145 :: s146 :: s147 :: s148 :: s149 :: s150 :: s151 :: s152 :: s153 :: s154 :: s155 :: s156 :: s157 :: s158 :: s159 :: s160 :: s161 :: s162 :: s163 :: s164 :: s165 :: s166 :: s167 :: s168 :: s169 :: s170 :: s171 :: s172 :: s173 :: s174 :: s175 :: s176 :: s177 :: s178 :: s179 :: s180 :: s181 :: s182 :: s183 :: s184 :: s185 :: []).toArray, []⟩ W := by
  conv => arg 2; whnf
  have hK' : Hid _ := hK
  clear hK
  have hbl' : Hid (bl = w.heap.size) := hbl0
  clear hbl0
  have hlt := h.lt
  have hL6 := h.Ll
  by_cases hL0 : 0 < L.length
  · obtain ⟨gT, cT, eT⟩ := Joins.ownsRow_form h.own.trs.row hL0
    subst eT
    have q2 := h.c2
    have hgTb : b < gT := by have := (h.own.blk (j := gT) (Or.inr (Or.inl rfl))).1; omega
    have hl0' : ¬ ((L.length : Int) = 0) := by omega
    have hSd := h.later (Below.refl W.heap.size W).drew hbl
    have hP := pick_any w0 b k L.length W.drew (by omega) (by omega) hSd.cur
    go_wp2
    rename_i Kz az
    go_region_held3 (fun w' => w'.cell? ⟨bl, 2, none⟩ = some (.slice (some ⟨gT, 0, none⟩) L.length cT)) (first | go_keep | exact cellMid hM1 (by omega) (by assumption)) ((go_at_call 14; refine hP.mono ?_; rintro _ v1 ⟨y1, rfl, hy0, hy1, hC1, hM1⟩; obtain ⟨j, rfl⟩ : ∃ j : Nat, y1 = j := ⟨y1.toNat, by omega⟩; have hj : (j : Int) < (L.length : Int) := by omega))
    have hS1 := hSd.mid hM1 hC1 hb hbl
    refine az _ _ ?_
    clear az
    obtain ⟨A, x, B, e, hlen⟩ := split_at L j (by omega)
    subst hlen
    obtain ⟨t, lv⟩ := x
    subst e
    refine spoil_train w0 w b bl B0 (k + 2) O tr gap A B t lv gT _ cT vt v1 _ ?_ hS1 rfl (by omega) hb hbl
    intro u1 u2 u5 u6 u7 u8 u9 u10 u11 u12 u13 u14 u15 u16 u17 u18 u19 u20 u21 u22 u23 u24 u25 u26 u27 u28 u29 u30 u31 u32 u33 u34 u35 u36 u37 u38 u39 u40 u41 u42 u43 u44 u45 u46 u47 u48 u49 u50 u51 u52 u53 u54 u55 u56 u57 u58 u59 u60 u61 u62 u63 u64 u65 u66 u67 u68 u69 u70 u71 u72 u73 u74 u75 u76 u77 u78 u79 u80 u81 u82 u83 u84 u85 u86 u87 u88 u89 u90 u91 u92 u93 u94 u95 u96 u97 u98 u99 u100 u101 u102 u103 u104 u105 u106 u107 u108 u109 u110 u111 u112 u113 u114 u115 u116 u117 u118 u119 u120 u121 u122 u123 u124 u125 u126 u127 u128 u129 u130 u131 u132 u133 u134 u135 u136 u137 u138 u139 u140 u141 u142 u143 u144 u145 u146 u147 u148 u149 u150 u151 u152 u153 u154 u155 u156 u157 u158 u159 u160 u161 u162 u163 u164 u165 u166 u167 u168 u169 u170 u171 u172 u173 u174 u175 u176 u177 u178 u179 u180 u181 u182 u183 u184 u185 k' L' W' hS' hk'
    show K _ _
    apply hK'.out
    · exact hS'
    · omega
  · obtain ⟨at_, ct, rfl, _⟩ := ownInts h.own.ints
    obtain ⟨aT, cT, rfl, _⟩ := h.own.trs.trains (fun x hx => by have := h.gl x hx; unfold maxLen; omega)
    have hdone := fun x0 x1 x2 => h.done hbl'.out hbl hkk x0 x1 x2
    have hdone' : Hid _ := hdone
    clear hdone
    obtain ⟨x0, e0, f0⟩ := h.room 0 (by omega)
    obtain ⟨x1, e1, f1⟩ := h.room 1 (by omega)
    obtain ⟨x2, e2, f2⟩ := h.room 2 (by omega)
    have q0 := h.c0
    have q1 := h.c1
    have q2 := h.c2
    have hl0' : (L.length : Int) = 0 := by omega
    go_wp2
    exact bodyPost_ret (v := .agg #[.slice at_ tr.length ct, .int .i64 gap, .slice aT L.length cT]) (by simp [results, Tryz.results15, go_sem, e0, e1, e2]) rfl (hdone'.out _ _ _)
end Go.Proofs.YtgdljgjamafpiaaGreatDoor

