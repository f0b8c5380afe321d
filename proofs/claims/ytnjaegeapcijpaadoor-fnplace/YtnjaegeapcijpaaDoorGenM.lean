/-
  A line of a call's own, in its box; how worlds go on.
-/
import Derived.Test.YtnjaegeapcijpaaDoorOwnT
import Derived.Test.YtnjaegeapcijpaaDoorToM
namespace Go.Proofs.YtnjaegeapcijpaaDoor
open Go.RowKit

theorem Mid.grown {lo hi : Nat} {w W W' : World} {row : Option Nat} (h : Mid lo hi w W) (hg : W.grownBy W' row) (hr : ∀ k, row = some k → w.heap.size ≤ k) (hlo : lo ≤ w.heap.size) : Mid lo hi w W' := by
  have hs := h.below.size
  have hk : ∀ k, k < w.heap.size → W'.heap[k]? = W.heap[k]? := fun k hk => hg.block k (by omega) (fun e => by have := hr k e.symm; omega)
  refine ⟨below_grown h.below hg (by omega) (fun k e => by have := hr k e; omega), fun x h0 h1 => (hk x h1).trans (h.above x h0 h1), fun b o v hc hf => ?_⟩
  obtain ⟨v', h1, h2⟩ := h.keeps b o v hc hf
  have hb : W'.heap[b]? = W.heap[b]? := hk b (ltCell hc)
  exact ⟨v', (World.cell?_of_block (w := W) (w' := W') (a := ⟨b, o, none⟩) hb).trans h1, (World.frozen?_of_block (w := W) (w' := W') (a := ⟨b, o, none⟩) hb).trans h2⟩
theorem rowMid {W W' : World} {b B0 : Nat} {e : TypeId} {size : Nat} {v : Value} {n : Nat} {xs : List Value} (h : W.ownsRow B0 e size v n xs) (hM : Mid b (b + 1) W W') (hb : b < B0) : W'.ownsRow B0 e size v n xs :=
  ownsRow_same h (fun k hk => hM.above k (by have := (h.lt k hk).1; omega) (h.lt k hk).2)
theorem info3 {P : Program} {t : TypeId} {z : Value} {s b : Nat} (h : (P.info? t).map (fun i => (i.zero, i.size, i.bytes)) = some (some z, s, b)) : ∃ i, P.info? t = some i ∧ i.zero = some z ∧ i.size = s ∧ i.bytes = b := by
  cases hi : P.info? t with
  | none => rw [hi] at h; simp at h
  | some i => rw [hi] at h; simp at h; exact ⟨i, rfl, h.1, h.2.1, h.2.2⟩
theorem ints_at {W : World} {B0 g cap : Nat} {a : List Int} (h : W.ownsRow B0 3 1 (.slice (some ⟨g, 0, none⟩) a.length cap) a.length (intCells a)) {j : Nat} (hj : j < a.length) : W.cell? ⟨g, j, none⟩ = some (.int .i64 (a.getD j 0)) := by
  rw [World.ownsRow.cellAt h j (by omega)]
  unfold intCells
  rw [List.getElem?_map, List.getD_eq_getElem?_getD, List.getElem?_eq_getElem hj]
  rfl
theorem Mid.setNew {lo hi : Nat} {w W : World} (h : Mid lo hi w W) (p : Addr) (hp : w.heap.size ≤ p.block) (hlo : lo ≤ w.heap.size) (x : Value) : Mid lo hi w (W.setCell p x) :=
  ⟨h.below.setCell (by omega) x, fun y hy hy2 => (Below.heap_setCell W p x y (by omega)).trans (h.above y hy hy2), fun b o v hc hf => by
    obtain ⟨v', h1, h2⟩ := h.keeps b o v hc hf
    obtain ⟨v2, hv2⟩ := cell?_setCell_some (w := W) (p := p) (x := x) h1
    exact ⟨v2, hv2, by rw [World.frozen?_setCell]; exact h2⟩⟩
theorem Room.keep {B m lo hi : Nat} {W W' : World} (h : Room B m W) (hM : Mid lo hi W W') : Room B m W' := fun i hi => by
  obtain ⟨v, hv, hz⟩ := h i hi
  exact hM.keeps _ _ v hv hz
theorem Room.grown {B m : Nat} {W W' : World} {row : Option Nat} (h : Room B m W) (hg : W.grownBy W' row) (hr : ∀ k, row = some k → k ≠ B) : Room B m W' := fun i hi => by
  obtain ⟨v, hv, hz⟩ := h i hi
  have hb : W'.heap[B]? = W.heap[B]? := hg.block B (ltCell hv) (fun e => hr B e.symm rfl)
  exact ⟨v, (World.cell?_of_block (w := W) (w' := W') (a := ⟨B, i, none⟩) hb).trans hv, (World.frozen?_of_block (w := W) (w' := W') (a := ⟨B, i, none⟩) hb).trans hz⟩
/-- tracks and trains of the call's own, in blocks apart -/
structure LOwn (B0 : Nat) (W : World) (tr : List Int) (L : List TrV) (vt vT : Value) : Prop where
  ints : W.ownsRow B0 3 1 vt tr.length (intCells tr)
  trs : OwnT B0 W vT L
  off : Off vt vT
  offs : ∀ x ∈ L, Off vt x.2
section
variable {B0 : Nat} {W W' : World} {tr : List Int} {L : List TrV} {vt vT : Value}
theorem LOwn.same (h : LOwn B0 W tr L vt vT) (hs : ∀ k, B0 ≤ k → k < W.heap.size → W'.heap[k]? = W.heap[k]?) : LOwn B0 W' tr L vt vT :=
  ⟨ownsRow_same h.ints (fun k hk => hs k (h.ints.lt k hk).1 (h.ints.lt k hk).2), h.trs.same (fun k hk => hs k (h.trs.lt hk).1 (h.trs.lt hk).2), h.off, h.offs⟩
theorem LOwn.later (h : LOwn B0 W tr L vt vT) (hB : Below W.heap.size W W') : LOwn B0 W' tr L vt vT := h.same (fun k _ hk => hB.block k hk)
theorem LOwn.mid {b : Nat} (h : LOwn B0 W tr L vt vT) (hM : Mid b (b + 1) W W') (hb : b < B0) : LOwn B0 W' tr L vt vT := h.same (fun k h0 h1 => hM.above k (by omega) h1)
theorem LOwn.set (h : LOwn B0 W tr L vt vT) (p : Addr) (hp : p.block < B0) (x : Value) : LOwn B0 (W.setCell p x) tr L vt vT := h.same (fun k h0 _ => Below.heap_setCell W p x k (by omega))
theorem LOwn.low (h : LOwn B0 W tr L vt vT) {B1 : Nat} (hb : B1 ≤ B0) : LOwn B1 W tr L vt vT := ⟨Joins.ownsRow_le h.ints hb, h.trs.low hb, h.off, h.offs⟩
theorem LOwn.snoc {v' : Value} {t : TrL} {lv : Value} (h : LOwn B0 W tr L vt vT) (ho : W'.ownsRow B0 71 5 v' (L.length + 1) (trCells L ++ [.int .i64 t.frm, .int .i64 t.ready, .int .i64 t.due, .int .i64 t.weight, lv]))
    (hl : OwnLegs B0 W lv t.legs) (hn : ∀ k, lv.ownBlock = some k → vt.ownBlock ≠ some k ∧ vT.ownBlock ≠ some k ∧ ∀ x ∈ L, x.2.ownBlock ≠ some k) (hg : W.grownBy W' vT.ownBlock) (hloc : v'.ownBlock = vT.ownBlock ∨ v'.ownBlock = some W.heap.size) : LOwn B0 W' tr (L ++ [(t, lv)]) vt v' := by
  refine ⟨ownsRow_same h.ints (fun k hk => hg.block k (h.ints.lt k hk).2 (fun e => h.off k hk e.symm)), h.trs.snoc ho hl (fun x hx k hk e => (hn k e).2.2 x hx hk) (fun k hk => (hn k hk).2.1) hg hloc, h.off.loc (fun k hk => (h.ints.lt k hk).2) hloc, fun x hx => ?_⟩
  rcases List.mem_append.1 hx with hx | hx
  · exact h.offs x hx
  · rw [List.mem_singleton] at hx; subst hx; exact fun k hk e => (hn k e).1 hk
end
structure LBox (B0 bl : Nat) (W : World) (tr : List Int) (gap : Int) (L : List TrV) (vt vT : Value) : Prop where
  c0 : W.cell? ⟨bl, 0, none⟩ = some vt
  c1 : W.cell? ⟨bl, 1, none⟩ = some (.int .i64 gap)
  c2 : W.cell? ⟨bl, 2, none⟩ = some vT
  z0 : W.frozen? ⟨bl, 0, none⟩ = false
  z1 : W.frozen? ⟨bl, 1, none⟩ = false
  z2 : W.frozen? ⟨bl, 2, none⟩ = false
  lt : bl < B0
  own : LOwn B0 W tr L vt vT
section
variable {B0 bl : Nat} {W W' : World} {tr : List Int} {gap : Int} {L : List TrV} {vt vT : Value}
theorem LBox.same (h : LBox B0 bl W tr gap L vt vT) (hb : W'.heap[bl]? = W.heap[bl]?) (hs : ∀ k, B0 ≤ k → k < W.heap.size → W'.heap[k]? = W.heap[k]?) : LBox B0 bl W' tr gap L vt vT := by
  have cc : ∀ o u, W.cell? ⟨bl, o, none⟩ = some u → W'.cell? ⟨bl, o, none⟩ = some u := fun o u hu => (World.cell?_of_block (w := W) (w' := W') (a := ⟨bl, o, none⟩) hb).trans hu
  have zz : ∀ o, W.frozen? ⟨bl, o, none⟩ = false → W'.frozen? ⟨bl, o, none⟩ = false := fun o hu => (World.frozen?_of_block (w := W) (w' := W') (a := ⟨bl, o, none⟩) hb).trans hu
  exact ⟨cc 0 _ h.c0, cc 1 _ h.c1, cc 2 _ h.c2, zz 0 h.z0, zz 1 h.z1, zz 2 h.z2, h.lt, h.own.same hs⟩
theorem LBox.later (h : LBox B0 bl W tr gap L vt vT) (hB : Below W.heap.size W W') : LBox B0 bl W' tr gap L vt vT := h.same (hB.block _ (ltCell h.c0)) (fun k _ hk => hB.block k hk)
theorem LBox.mid {b : Nat} (h : LBox B0 bl W tr gap L vt vT) (hM : Mid b (b + 1) W W') (hb : b < bl) : LBox B0 bl W' tr gap L vt vT :=
  h.same (hM.above _ hb (ltCell h.c0)) (fun k h0 h1 => hM.above k (by have := h.lt; omega) h1)
/-- the tracks, laid into the box -/
theorem LBox.tracks {tr' : List Int} {vt' : Value} (h : LBox B0 bl W tr gap [] vt (.slice none 0 0)) (ho : W.ownsRow B0 3 1 vt' tr'.length (intCells tr')) : LBox B0 bl (W.setCell ⟨bl, 0, none⟩ vt') tr' gap [] vt' (.slice none 0 0) := by
  have hl := h.lt
  refine ⟨World.cell?_setCell_same _ _ _ h.c0, (cell_set_ne (by omega)).trans h.c1, (cell_set_ne (by omega)).trans h.c2, (World.frozen?_setCell ..).trans h.z0, (World.frozen?_setCell ..).trans h.z1, (World.frozen?_setCell ..).trans h.z2, hl, ⟨ownsRow_setCell_below ho hl _, OwnT.nil _ _, fun k _ e => by simp [Value.ownBlock] at e, fun x hx => absurd hx List.not_mem_nil⟩⟩
theorem LBox.gap_ (h : LBox B0 bl W tr gap L vt vT) (gap' : Int) : LBox B0 bl (W.setCell ⟨bl, 1, none⟩ (.int .i64 gap')) tr gap' L vt vT := by
  have hl := h.lt
  exact ⟨(cell_set_ne (by omega)).trans h.c0, World.cell?_setCell_same _ _ _ h.c1, (cell_set_ne (by omega)).trans h.c2, (World.frozen?_setCell ..).trans h.z0, (World.frozen?_setCell ..).trans h.z1, (World.frozen?_setCell ..).trans h.z2, hl, h.own.set _ hl _⟩
/-- one train more, laid into the box -/
theorem LBox.snoc {v' : Value} {t : TrL} {lv : Value} (h : LBox B0 bl W tr gap L vt vT) (ho : W'.ownsRow B0 71 5 v' (L.length + 1) (trCells L ++ [.int .i64 t.frm, .int .i64 t.ready, .int .i64 t.due, .int .i64 t.weight, lv]))
    (hl : OwnLegs B0 W lv t.legs) (hn : ∀ k, lv.ownBlock = some k → vt.ownBlock ≠ some k ∧ vT.ownBlock ≠ some k ∧ ∀ x ∈ L, x.2.ownBlock ≠ some k) (hg : W.grownBy W' vT.ownBlock) (hloc : v'.ownBlock = vT.ownBlock ∨ v'.ownBlock = some W.heap.size) : LBox B0 bl (W'.setCell ⟨bl, 2, none⟩ v') tr gap (L ++ [(t, lv)]) vt v' := by
  have hlt := h.lt
  have hlb := ltCell h.c0
  dsimp only at hlb
  have hb : W'.heap[bl]? = W.heap[bl]? := hg.block bl hlb (fun e => by have := (h.own.trs.lt (Or.inl e.symm)).1; omega)
  have cc : ∀ o u, W.cell? ⟨bl, o, none⟩ = some u → W'.cell? ⟨bl, o, none⟩ = some u := fun o u hu => (World.cell?_of_block (w := W) (w' := W') (a := ⟨bl, o, none⟩) hb).trans hu
  have zz : ∀ o, W.frozen? ⟨bl, o, none⟩ = false → W'.frozen? ⟨bl, o, none⟩ = false := fun o hu => (World.frozen?_of_block (w := W) (w' := W') (a := ⟨bl, o, none⟩) hb).trans hu
  exact ⟨(cell_set_ne (by omega)).trans (cc 0 _ h.c0), (cell_set_ne (by omega)).trans (cc 1 _ h.c1), World.cell?_setCell_same _ _ _ (cc 2 _ h.c2), (World.frozen?_setCell ..).trans (zz 0 h.z0), (World.frozen?_setCell ..).trans (zz 1 h.z1), (World.frozen?_setCell ..).trans (zz 2 h.z2), hlt, (h.own.snoc ho hl hn hg hloc).set _ hlt _⟩
end
theorem TrV_one {t : TrL} {la : Option Addr} {n c : Nat} : ∀ u ∈ [Value.int .i64 t.frm, .int .i64 t.ready, .int .i64 t.due, .int .i64 t.weight, .slice la n c], u.oneCell' = true := by
  intro u hu
  simp only [List.mem_cons, List.not_mem_nil, or_false] at hu
  rcases hu with rfl | rfl | rfl | rfl | rfl <;> rfl
/-- a train's box at block bt, its legs of the call's own -/
structure TBox (B0 bt : Nat) (W : World) (t : TrL) (lv : Value) : Prop where
  c0 : W.cell? ⟨bt, 0, none⟩ = some (.int .i64 t.frm)
  c1 : W.cell? ⟨bt, 1, none⟩ = some (.int .i64 t.ready)
  c2 : W.cell? ⟨bt, 2, none⟩ = some (.int .i64 t.due)
  c3 : W.cell? ⟨bt, 3, none⟩ = some (.int .i64 t.weight)
  c4 : W.cell? ⟨bt, 4, none⟩ = some lv
  z4 : W.frozen? ⟨bt, 4, none⟩ = false
  legs : OwnLegs B0 W lv t.legs
  off : lv.ownBlock ≠ some bt
section
variable {B0 bt : Nat} {W W' : World} {t : TrL} {lv : Value}
theorem TBox.same (h : TBox B0 bt W t lv) (hb : W'.heap[bt]? = W.heap[bt]?) (hl : ∀ k, lv.ownBlock = some k → W'.heap[k]? = W.heap[k]?) : TBox B0 bt W' t lv := by
  have cc : ∀ o u, W.cell? ⟨bt, o, none⟩ = some u → W'.cell? ⟨bt, o, none⟩ = some u := fun o u hu => (World.cell?_of_block (w := W) (w' := W') (a := ⟨bt, o, none⟩) hb).trans hu
  exact ⟨cc 0 _ h.c0, cc 1 _ h.c1, cc 2 _ h.c2, cc 3 _ h.c3, cc 4 _ h.c4, (World.frozen?_of_block (w := W) (w' := W') (a := ⟨bt, 4, none⟩) hb).trans h.z4, ownsRow_same h.legs hl, h.off⟩
theorem TBox.later (h : TBox B0 bt W t lv) (hB : Below W.heap.size W W') : TBox B0 bt W' t lv :=
  h.same (hB.block _ (ltCell h.c0)) (fun k hk => hB.block k (World.ownsRow.lt h.legs k hk).2)
theorem TBox.mid {b : Nat} (h : TBox B0 bt W t lv) (hM : Mid b (b + 1) W W') (h0 : b < B0) (h1 : b < bt) : TBox B0 bt W' t lv :=
  h.same (hM.above _ h1 (ltCell h.c0)) (fun k hk => hM.above k (by have := (World.ownsRow.lt h.legs k hk).1; omega) (World.ownsRow.lt h.legs k hk).2)
/-- one leg more -/
theorem TBox.add {g : LegD} {lv' : Value} (h : TBox B0 bt W t lv) (ho : W'.ownsRow B0 73 3 lv' (t.legs.length + 1) (legCells t.legs ++ [.int .i64 g.to, .int .i64 g.run, .int .i64 g.stay])) (hg : W.grownBy W' lv.ownBlock) (hloc : lv'.ownBlock = lv.ownBlock ∨ lv'.ownBlock = some W.heap.size) :
    TBox B0 bt (W'.setCell ⟨bt, 4, none⟩ lv') (t.add g) lv' := by
  have hlt := ltCell h.c0
  dsimp only at hlt
  have hb : W'.heap[bt]? = W.heap[bt]? := hg.block bt hlt (fun e => h.off e.symm)
  have cc : ∀ o u, W.cell? ⟨bt, o, none⟩ = some u → W'.cell? ⟨bt, o, none⟩ = some u := fun o u hu => (World.cell?_of_block (w := W) (w' := W') (a := ⟨bt, o, none⟩) hb).trans hu
  have hoff : lv'.ownBlock ≠ some bt := fun e => by
    rcases hloc with e2 | e2
    · exact h.off (e2.symm.trans e)
    · rw [e2] at e; cases e; omega
  refine ⟨(cell_set_ne (by omega)).trans (cc 0 _ h.c0), (cell_set_ne (by omega)).trans (cc 1 _ h.c1), (cell_set_ne (by omega)).trans (cc 2 _ h.c2), (cell_set_ne (by omega)).trans (cc 3 _ h.c3), World.cell?_setCell_same _ _ _ (cc 4 _ h.c4), ?_, ?_, hoff⟩
  · rw [World.frozen?_setCell]; exact (World.frozen?_of_block (w := W) (w' := W') (a := ⟨bt, 4, none⟩) hb).trans h.z4
  · unfold OwnLegs TrL.add
    dsimp only
    rw [legCells_snoc, List.length_append]
    exact ownsRow_same ho (fun k hk => Below.heap_setCell W' _ _ k (fun e => hoff (by rw [hk, e])))
end
end Go.Proofs.YtnjaegeapcijpaaDoor
