/-
  A row of trains of a call's own, each with its row of legs: no two in one block.
-/
import Derived.Test.YtnjaegeapcijpaaDoorGPx
import Derived.Test.YtnjaegeapcijpaaDoorGroups
import Derived.Test.YtnjaegeapcijpaaDoorApp
import Derived.Lib.SmallJoins
import Derived.OneCell
namespace Go.Proofs.YtnjaegeapcijpaaDoor
open Go.RowKit

/-- in no block of the other -/
def Off (u v : Value) : Prop := ∀ k, u.ownBlock = some k → v.ownBlock ≠ some k
theorem Off.symm {u v : Value} (h : Off u v) : Off v u := fun k hk hu => h k hu hk
theorem Off.loc {u v v' : Value} {W : World} (h : Off u v) (hu : ∀ k, u.ownBlock = some k → k < W.heap.size) (hl : v'.ownBlock = v.ownBlock ∨ v'.ownBlock = some W.heap.size) : Off u v' := fun k hk => by
  rcases hl with e | e
  · rw [e]; exact h k hk
  · rw [e]; have := hu k hk; intro h2; cases h2; omega
theorem ownsRow_put {w : World} {base : Nat} {e : TypeId} {size g cap n : Nat} {xs : List Value} (h : w.ownsRow base e size (.slice (some ⟨g, 0, none⟩) n cap) n xs) (i : Nat) (u : Value) : (w.setCell ⟨g, i, none⟩ u).ownsRow base e size (.slice (some ⟨g, 0, none⟩) n cap) n (xs.set i u) := by
  obtain ⟨hl, hn | ⟨g', cap', cur, hv, hb, hg, h1, h2, h3, h4⟩⟩ := h
  · cases hn.1
  · cases hv
    have hlt := lt_of_block hg
    have h' : w.heap[g] = .cells cur e (0, 0) := by simpa [Array.getElem?_eq_getElem hlt] using hg
    refine ⟨by simpa using hl, Or.inr ⟨g, cap, cur.set! i u, rfl, hb, ?_, h1, h2, by simpa using h3, ?_⟩⟩
    · show (w.heap.modify g _)[g]? = _
      rw [Array.getElem?_eq_getElem (by simpa using hlt), Array.getElem_modify_self, h']
      rfl
    · rw [← h4]
      simp [List.take_set]

def legCells (L : List LegD) : List Value := L.flatMap fun g => [.int .i64 g.to, .int .i64 g.run, .int .i64 g.stay]
abbrev TrV := TrL × Value
def trCells (L : List TrV) : List Value := L.flatMap fun x => [.int .i64 x.1.frm, .int .i64 x.1.ready, .int .i64 x.1.due, .int .i64 x.1.weight, x.2]
def intCells (L : List Int) : List Value := L.map fun n => .int .i64 n
theorem intCells_snoc (L : List Int) (n : Int) : intCells (L ++ [n]) = intCells L ++ [.int .i64 n] := by simp [intCells]
theorem intCells_len (L : List Int) : (intCells L).length = L.length := by simp [intCells]
theorem legCells_snoc (L : List LegD) (g : LegD) : legCells (L ++ [g]) = legCells L ++ [.int .i64 g.to, .int .i64 g.run, .int .i64 g.stay] := by simp [legCells]
theorem trCells_snoc (L : List TrV) (x : TrV) : trCells (L ++ [x]) = trCells L ++ [.int .i64 x.1.frm, .int .i64 x.1.ready, .int .i64 x.1.due, .int .i64 x.1.weight, x.2] := by simp [trCells]
theorem trCells_len (L : List TrV) : (trCells L).length = L.length * 5 := by
  induction L with
  | nil => rfl
  | cons x L ih =>
    have : trCells (x :: L) = [.int .i64 x.1.frm, .int .i64 x.1.ready, .int .i64 x.1.due, .int .i64 x.1.weight, x.2] ++ trCells L := by simp [trCells]
    rw [this, List.length_append, ih]; simp; omega
theorem trCells_set (L : List TrV) (t : TrL) (v v' : Value) (g : LegD) : (trCells (L ++ [(t, v)])).set (L.length * 5 + 4) v' = trCells (L ++ [(t.add g, v')]) := by
  rw [trCells_snoc, trCells_snoc, List.set_append_right _ _ (by rw [trCells_len]; omega), trCells_len, show L.length * 5 + 4 - L.length * 5 = 4 by omega]
  rfl
theorem trCells_at (L : List TrV) (j : Nat) (x : TrV) (h : L[j]? = some x) : (trCells L)[j * 5]? = some (.int .i64 x.1.frm) ∧ (trCells L)[j * 5 + 1]? = some (.int .i64 x.1.ready) ∧ (trCells L)[j * 5 + 2]? = some (.int .i64 x.1.due) ∧ (trCells L)[j * 5 + 3]? = some (.int .i64 x.1.weight) ∧ (trCells L)[j * 5 + 4]? = some x.2 := by
  induction L generalizing j with
  | nil => simp at h
  | cons y L ih =>
    have hc : trCells (y :: L) = [.int .i64 y.1.frm, .int .i64 y.1.ready, .int .i64 y.1.due, .int .i64 y.1.weight, y.2] ++ trCells L := by simp [trCells]
    rw [hc]
    cases j with
    | zero => simp only [List.getElem?_cons_zero, Option.some.injEq] at h; subst h; exact ⟨rfl, rfl, rfl, rfl, rfl⟩
    | succ j =>
      rw [List.getElem?_cons_succ] at h
      have := ih j h
      have e : ∀ d, ([Value.int .i64 y.1.frm, .int .i64 y.1.ready, .int .i64 y.1.due, .int .i64 y.1.weight, y.2] ++ trCells L)[(j + 1) * 5 + d]? = (trCells L)[j * 5 + d]? := fun d => by
        rw [List.getElem?_append_right (by simp; omega)]
        congr 1; simp; omega
      exact ⟨(e 0).trans this.1, (e 1).trans this.2.1, (e 2).trans this.2.2.1, (e 3).trans this.2.2.2.1, (e 4).trans this.2.2.2.2⟩
theorem legCells_at (L : List LegD) (j : Nat) (x : LegD) (h : L[j]? = some x) : (legCells L)[j * 3]? = some (.int .i64 x.to) ∧ (legCells L)[j * 3 + 1]? = some (.int .i64 x.run) ∧ (legCells L)[j * 3 + 2]? = some (.int .i64 x.stay) := by
  induction L generalizing j with
  | nil => simp at h
  | cons y L ih =>
    have hc : legCells (y :: L) = [.int .i64 y.to, .int .i64 y.run, .int .i64 y.stay] ++ legCells L := by simp [legCells]
    rw [hc]
    cases j with
    | zero => simp only [List.getElem?_cons_zero, Option.some.injEq] at h; subst h; exact ⟨rfl, rfl, rfl⟩
    | succ j =>
      rw [List.getElem?_cons_succ] at h
      have := ih j h
      have e : ∀ d, ([Value.int .i64 y.to, .int .i64 y.run, .int .i64 y.stay] ++ legCells L)[(j + 1) * 3 + d]? = (legCells L)[j * 3 + d]? := fun d => by
        rw [List.getElem?_append_right (by simp; omega)]
        congr 1; simp; omega
      exact ⟨(e 0).trans this.1, (e 1).trans this.2.1, (e 2).trans this.2.2⟩

/-- the legs of a train, of the call's own -/
def OwnLegs (B0 : Nat) (W : World) (v : Value) (L : List LegD) : Prop := W.ownsRow B0 73 3 v L.length (legCells L)
structure OwnT (B0 : Nat) (W : World) (v : Value) (L : List TrV) : Prop where
  row : W.ownsRow B0 71 5 v L.length (trCells L)
  legs : ∀ x ∈ L, OwnLegs B0 W x.2 x.1.legs
  apart : L.Pairwise fun x y => Off x.2 y.2
  off : ∀ x ∈ L, Off x.2 v
section
variable {B0 : Nat} {W : World} {v : Value} {L : List TrV}
theorem OwnT.nil (B0 : Nat) (W : World) : OwnT B0 W (.slice none 0 0) [] := ⟨World.ownsRow_nil _ _ _ _, fun _ hx => absurd hx List.not_mem_nil, List.Pairwise.nil, fun _ hx => absurd hx List.not_mem_nil⟩
theorem OwnT.same (h : OwnT B0 W v L) {W' : World} (hs : ∀ k, (v.ownBlock = some k ∨ ∃ x ∈ L, x.2.ownBlock = some k) → W'.heap[k]? = W.heap[k]?) : OwnT B0 W' v L :=
  ⟨ownsRow_same h.row (fun k hk => hs k (Or.inl hk)), fun x hx => ownsRow_same (h.legs x hx) (fun k hk => hs k (Or.inr ⟨x, hx, hk⟩)), h.apart, h.off⟩
theorem OwnT.lt (h : OwnT B0 W v L) {k : Nat} (hk : v.ownBlock = some k ∨ ∃ x ∈ L, x.2.ownBlock = some k) : B0 ≤ k ∧ k < W.heap.size := by
  rcases hk with hk | ⟨x, hx, hk⟩
  · exact h.row.lt k hk
  · exact (h.legs x hx).lt k hk
theorem OwnT.later (h : OwnT B0 W v L) {W' : World} (hB : Below W.heap.size W W') : OwnT B0 W' v L := h.same (fun k hk => hB.block k (h.lt hk).2)
theorem OwnT.set (h : OwnT B0 W v L) {p : Addr} (hp : p.block < B0) (x : Value) : OwnT B0 (W.setCell p x) v L := h.same (fun k hk => Below.heap_setCell W p x k (by have := (h.lt hk).1; omega))
theorem OwnT.low (h : OwnT B0 W v L) {B1 : Nat} (hb : B1 ≤ B0) : OwnT B1 W v L := ⟨Joins.ownsRow_le h.row hb, fun x hx => Joins.ownsRow_le (h.legs x hx) hb, h.apart, h.off⟩
/-- one train more -/
theorem OwnT.snoc {W' : World} {v' : Value} {t : TrL} {lv : Value} (h : OwnT B0 W v L) (ho : W'.ownsRow B0 71 5 v' (L.length + 1) (trCells L ++ [.int .i64 t.frm, .int .i64 t.ready, .int .i64 t.due, .int .i64 t.weight, lv]))
    (hl : OwnLegs B0 W lv t.legs) (ha : ∀ x ∈ L, Off x.2 lv) (hf : Off lv v) (hg : W.grownBy W' v.ownBlock) (hloc : v'.ownBlock = v.ownBlock ∨ v'.ownBlock = some W.heap.size) : OwnT B0 W' v' (L ++ [(t, lv)]) := by
  have keep : ∀ u : Value, Off u v → (∀ k, u.ownBlock = some k → k < W.heap.size) → ∀ k, u.ownBlock = some k → W'.heap[k]? = W.heap[k]? := fun u hu hlt k hk => hg.block k (hlt k hk) (fun e => hu k hk e.symm)
  have hlt : ∀ k, lv.ownBlock = some k → k < W.heap.size := fun k hk => (World.ownsRow.lt hl k hk).2
  have hlx : ∀ x ∈ L, ∀ k, x.2.ownBlock = some k → k < W.heap.size := fun x hx k hk => ((h.legs x hx).lt k hk).2
  refine ⟨by rw [trCells_snoc, List.length_append]; exact ho, fun x hx => ?_, ?_, fun x hx => ?_⟩
  · rcases List.mem_append.1 hx with hx | hx
    · exact ownsRow_same (h.legs x hx) (keep _ (h.off x hx) (hlx x hx))
    · rw [List.mem_singleton] at hx; subst hx; exact ownsRow_same hl (keep _ hf hlt)
  · rw [List.pairwise_append]
    exact ⟨h.apart, List.pairwise_singleton _ _, fun x hx y hy => by rw [List.mem_singleton] at hy; subst hy; exact ha x hx⟩
  · rcases List.mem_append.1 hx with hx | hx
    · exact (h.off x hx).loc (hlx x hx) hloc
    · rw [List.mem_singleton] at hx; subst hx; exact hf.loc hlt hloc
/-- one leg more, of the last train, where it lies -/
theorem OwnT.leg {g cap : Nat} {t : TrL} {lv lv' : Value} {n : LegD} {W1 : World} (h : OwnT B0 W (.slice (some ⟨g, 0, none⟩) (L.length + 1) cap) (L ++ [(t, lv)]))
    (ho : W1.ownsRow B0 73 3 lv' (t.legs.length + 1) (legCells t.legs ++ [.int .i64 n.to, .int .i64 n.run, .int .i64 n.stay])) (hg : W.grownBy W1 lv.ownBlock) (hloc : lv'.ownBlock = lv.ownBlock ∨ lv'.ownBlock = some W.heap.size) :
    OwnT B0 (W1.setCell ⟨g, L.length * 5 + 4, none⟩ lv') (.slice (some ⟨g, 0, none⟩) (L.length + 1) cap) (L ++ [(t.add n, lv')]) := by
  have hrow := h.row
  rw [List.length_append] at hrow
  have hoff : Off lv (.slice (some ⟨g, 0, none⟩) (L.length + 1) cap) := h.off (t, lv) (by simp)
  have gl : g < W.heap.size := (hrow.lt g rfl).2
  have hgk : W1.heap[g]? = W.heap[g]? := hg.block g gl (fun e => hoff g e.symm rfl)
  have hrow1 := ownsRow_same (W' := W1) hrow (fun k hk => by simp only [Value.ownBlock, Option.some.injEq] at hk; subst hk; exact hgk)
  have hp := List.pairwise_append.1 h.apart
  have hxl : ∀ x ∈ L, Off x.2 lv := fun x hx => hp.2.2 x hx (t, lv) (by simp)
  have hoff' : Off lv' (.slice (some ⟨g, 0, none⟩) (L.length + 1) cap) := fun k hk e => by
    rcases hloc with e2 | e2
    · exact hoff k (e2.symm.trans hk) e
    · rw [e2] at hk; cases hk; simp only [Value.ownBlock, Option.some.injEq] at e; omega
  refine ⟨?_, fun x hx => ?_, ?_, fun x hx => ?_⟩
  · have := ownsRow_put hrow1 (L.length * 5 + 4) lv'
    rw [trCells_set L t lv lv' n] at this
    rw [List.length_append]
    exact this
  · rcases List.mem_append.1 hx with hx | hx
    · refine ownsRow_same (h.legs x (List.mem_append_left _ hx)) (fun k hk => ?_)
      have hk2 := ((h.legs x (List.mem_append_left _ hx)).lt k hk).2
      rw [Below.heap_setCell W1 _ _ k (fun e => h.off x (List.mem_append_left _ hx) k hk (by rw [e]; rfl))]
      exact hg.block k hk2 (fun e => hxl x hx k hk e.symm)
    · rw [List.mem_singleton] at hx; subst hx
      unfold OwnLegs TrL.add
      dsimp only
      rw [legCells_snoc, List.length_append]
      exact ownsRow_same ho (fun k hk => Below.heap_setCell W1 _ _ k (fun e => hoff' k hk (by rw [e]; rfl)))
  · rw [List.pairwise_append]
    refine ⟨hp.1, List.pairwise_singleton _ _, fun x hx y hy => ?_⟩
    rw [List.mem_singleton] at hy; subst hy
    exact (hxl x hx).loc (fun k hk => ((h.legs x (List.mem_append_left _ hx)).lt k hk).2) hloc
  · rcases List.mem_append.1 hx with hx | hx
    · exact h.off x (List.mem_append_left _ hx)
    · rw [List.mem_singleton] at hx; subst hx; exact hoff'
end
/-- as a line's data has them -/
def nilT : TrL := ⟨0, 0, 0, 0, []⟩
def trD (t : TrL) : TrainD := ⟨t.frm, t.ready, t.due, t.weight, t.legs.length, fun m => t.legs.getD m ⟨0, 0, 0⟩⟩
def fT (L : List TrL) (j : Nat) : TrainD := trD (L.getD j nilT)
def gI (L : List Int) (j : Nat) : Int := L.getD j 0
theorem OwnLegs.legs {B0 : Nat} {W : World} {v : Value} {L : List LegD} (h : OwnLegs B0 W v L) : ∃ a cap, v = .slice a L.length cap ∧ IsLegs B0 W.heap.size W a L.length (fun m => L.getD m ⟨0, 0, 0⟩) := by
  rcases h.2 with ⟨rfl, h0⟩ | ⟨g, cap, cur, rfl, hb, hg, _⟩
  · exact ⟨none, 0, by rw [h0], fun j hj => by omega⟩
  · refine ⟨_, cap, rfl, fun j hj => ?_⟩
    have hl : L[j]? = some (L.getD j ⟨0, 0, 0⟩) := by rw [List.getD_eq_getElem?_getD, List.getElem?_eq_getElem hj]; rfl
    obtain ⟨c0, c1, c2⟩ := legCells_at L j _ hl
    have hlt := World.ownsRow.lt h g rfl
    refine ⟨g, 0, rfl, hlt.1, hlt.2, ?_, ?_, ?_⟩
    · rw [Nat.zero_add, World.ownsRow.cellAt h _ (by omega)]; exact c0
    · rw [Nat.zero_add, World.ownsRow.cellAt h _ (by omega)]; exact c1
    · rw [Nat.zero_add, World.ownsRow.cellAt h _ (by omega)]; exact c2
theorem OwnT.trains {B0 : Nat} {W : World} {v : Value} {L : List TrV} (h : OwnT B0 W v L) (hn : ∀ x ∈ L, x.1.legs.length ≤ maxLen) : ∃ a cap, v = .slice a L.length cap ∧ IsTrains B0 W.heap.size W a L.length (fT (L.map Prod.fst)) := by
  rcases h.row.2 with ⟨rfl, h0⟩ | ⟨g, cap, cur, rfl, hb, hg, _⟩
  · exact ⟨none, 0, by rw [h0], fun j hj => by omega⟩
  · refine ⟨_, cap, rfl, fun j hj => ?_⟩
    have hl : L[j]? = some L[j] := List.getElem?_eq_getElem hj
    have hf : fT (L.map Prod.fst) j = trD L[j].1 := by unfold fT; rw [List.getD_eq_getElem?_getD, List.getElem?_map, hl]; rfl
    obtain ⟨c0, c1, c2, c3, c4⟩ := trCells_at L j _ hl
    have hlt := World.ownsRow.lt h.row g rfl
    have hm : L[j] ∈ L := List.getElem_mem hj
    obtain ⟨la, lc, e4, hlg⟩ := OwnLegs.legs (h.legs _ hm)
    rw [e4] at c4
    rw [hf]
    refine ⟨g, 0, la, lc, rfl, hlt.1, hlt.2, ?_, ?_, ?_, ?_, ?_, hlg, hn _ hm⟩
    · rw [Nat.zero_add, World.ownsRow.cellAt h.row _ (by omega)]; exact c0
    · rw [Nat.zero_add, World.ownsRow.cellAt h.row _ (by omega)]; exact c1
    · rw [Nat.zero_add, World.ownsRow.cellAt h.row _ (by omega)]; exact c2
    · rw [Nat.zero_add, World.ownsRow.cellAt h.row _ (by omega)]; exact c3
    · rw [Nat.zero_add, World.ownsRow.cellAt h.row _ (by omega)]; exact c4
theorem ownInts {B0 : Nat} {W : World} {v : Value} {L : List Int} (h : W.ownsRow B0 3 1 v L.length (intCells L)) : ∃ a cap, v = .slice a L.length cap ∧ IsInts B0 W.heap.size W a L.length (gI L) := by
  rcases h.2 with ⟨rfl, h0⟩ | ⟨g, cap, cur, rfl, hb, hg, _⟩
  · exact ⟨none, 0, by rw [h0], fun j hj => by omega⟩
  · refine ⟨_, cap, rfl, fun j hj => ⟨g, 0, rfl, (World.ownsRow.lt h g rfl).1, (World.ownsRow.lt h g rfl).2, ?_⟩⟩
    rw [Nat.zero_add, World.ownsRow.cellAt h _ (by omega)]
    unfold intCells gI
    rw [List.getElem?_map, List.getD_eq_getElem?_getD, List.getElem?_eq_getElem hj]
    rfl
end Go.Proofs.YtnjaegeapcijpaaDoor
