/-
  A row of trains of a call's own, each with its row of legs: no two in one block.
  A line of a call's own, in its box; how worlds go on.
  A drawn line, as plain data: it is right.
  The draws of the model: a line, a train's legs.
  The draws of the model: a line, its trains.
-/
import Derived.Test.YtelickcfodcmaaaGreatDoorGA
import Derived.Test.YtelickcfodcmaaaGreatDoorGroups
import Derived.Test.YtelickcfodcmaaaGreatDoorApp
import Derived.Lib.SmallJoins
import Derived.OneCell
import Derived.Deep.RegionHeld3
import Derived.Maps.AppendAt
namespace Go.Proofs.YtelickcfodcmaaaGreatDoor
open Go.RowKit

/-- in no block of the other -/
def Off (u v : Value) : Prop := ∀ k, u.ownBlock = some k → v.ownBlock ≠ some k
theorem Off.symm {u v : Value} (h : Off u v) : Off v u := fun k hk hu => h k hu hk
theorem Off.loc {u v v' : Value} {W : World} (h : Off u v) (hu : ∀ k, u.ownBlock = some k → k < W.heap.size) (hl : v'.ownBlock = v.ownBlock ∨ v'.ownBlock = some W.heap.size) : Off u v' := fun k hk => by
  rcases hl with e | e
  · rw [e]; exact h k hk
  · rw [e]; have := hu k hk; intro h2; cases h2; omega
theorem ownsRow_put {w : World} {base : Nat} {e : TypeId} {size g cap n : Nat} {xs : List Value} (h : w.ownsRow base e size (.slice (some ⟨g, 0, none⟩) n cap) n xs) (i : Nat) (u : Value) : (w.setCell ⟨g, i, none⟩ u).ownsRow base e size (.slice (some ⟨g, 0, none⟩) n cap) n (xs.set i u) := by
  obtain ⟨hl, hn | ⟨g', cap', cur, hv, hb, hg, h1, h2, h3, h4⟩⟩ := h
  · cases hn.1
  · cases hv
    have hlt := lt_of_block hg
    have h' : w.heap[g] = .cells cur e (0, 0) := by simpa [Array.getElem?_eq_getElem hlt] using hg
    refine ⟨by simpa using hl, Or.inr ⟨g, cap, cur.set! i u, rfl, hb, ?_, h1, h2, by simpa using h3, ?_⟩⟩
    · show (w.heap.modify g _)[g]? = _
      rw [Array.getElem?_eq_getElem (by simpa using hlt), Array.getElem_modify_self, h']
      rfl
    · rw [← h4]
      simp [List.take_set]

def legCells (L : List LegD) : List Value := L.flatMap fun g => [.int .i64 g.to, .int .i64 g.run, .int .i64 g.stay]
abbrev TrV := TrL × Value
def trCells (L : List TrV) : List Value := L.flatMap fun x => [.int .i64 x.1.frm, .int .i64 x.1.ready, .int .i64 x.1.due, .int .i64 x.1.weight, x.2]
def intCells (L : List Int) : List Value := L.map fun n => .int .i64 n
theorem intCells_snoc (L : List Int) (n : Int) : intCells (L ++ [n]) = intCells L ++ [.int .i64 n] := by simp [intCells]
theorem intCells_len (L : List Int) : (intCells L).length = L.length := by simp [intCells]
theorem legCells_snoc (L : List LegD) (g : LegD) : legCells (L ++ [g]) = legCells L ++ [.int .i64 g.to, .int .i64 g.run, .int .i64 g.stay] := by simp [legCells]
theorem trCells_snoc (L : List TrV) (x : TrV) : trCells (L ++ [x]) = trCells L ++ [.int .i64 x.1.frm, .int .i64 x.1.ready, .int .i64 x.1.due, .int .i64 x.1.weight, x.2] := by simp [trCells]
theorem trCells_len (L : List TrV) : (trCells L).length = L.length * 5 := by
  induction L with
  | nil => rfl
  | cons x L ih =>
    have : trCells (x :: L) = [.int .i64 x.1.frm, .int .i64 x.1.ready, .int .i64 x.1.due, .int .i64 x.1.weight, x.2] ++ trCells L := by simp [trCells]
    rw [this, List.length_append, ih]; simp; omega
theorem trCells_set (L : List TrV) (t : TrL) (v v' : Value) (g : LegD) : (trCells (L ++ [(t, v)])).set (L.length * 5 + 4) v' = trCells (L ++ [(t.add g, v')]) := by
  rw [trCells_snoc, trCells_snoc, List.set_append_right _ _ (by rw [trCells_len]; omega), trCells_len, show L.length * 5 + 4 - L.length * 5 = 4 by omega]
  rfl
theorem trCells_at (L : List TrV) (j : Nat) (x : TrV) (h : L[j]? = some x) : (trCells L)[j * 5]? = some (.int .i64 x.1.frm) ∧ (trCells L)[j * 5 + 1]? = some (.int .i64 x.1.ready) ∧ (trCells L)[j * 5 + 2]? = some (.int .i64 x.1.due) ∧ (trCells L)[j * 5 + 3]? = some (.int .i64 x.1.weight) ∧ (trCells L)[j * 5 + 4]? = some x.2 := by
  induction L generalizing j with
  | nil => simp at h
  | cons y L ih =>
    have hc : trCells (y :: L) = [.int .i64 y.1.frm, .int .i64 y.1.ready, .int .i64 y.1.due, .int .i64 y.1.weight, y.2] ++ trCells L := by simp [trCells]
    rw [hc]
    cases j with
    | zero => simp only [List.getElem?_cons_zero, Option.some.injEq] at h; subst h; exact ⟨rfl, rfl, rfl, rfl, rfl⟩
    | succ j =>
      rw [List.getElem?_cons_succ] at h
      have := ih j h
      have e : ∀ d, ([Value.int .i64 y.1.frm, .int .i64 y.1.ready, .int .i64 y.1.due, .int .i64 y.1.weight, y.2] ++ trCells L)[(j + 1) * 5 + d]? = (trCells L)[j * 5 + d]? := fun d => by
        rw [List.getElem?_append_right (by simp; omega)]
        congr 1; simp; omega
      exact ⟨(e 0).trans this.1, (e 1).trans this.2.1, (e 2).trans this.2.2.1, (e 3).trans this.2.2.2.1, (e 4).trans this.2.2.2.2⟩
theorem legCells_at (L : List LegD) (j : Nat) (x : LegD) (h : L[j]? = some x) : (legCells L)[j * 3]? = some (.int .i64 x.to) ∧ (legCells L)[j * 3 + 1]? = some (.int .i64 x.run) ∧ (legCells L)[j * 3 + 2]? = some (.int .i64 x.stay) := by
  induction L generalizing j with
  | nil => simp at h
  | cons y L ih =>
    have hc : legCells (y :: L) = [.int .i64 y.to, .int .i64 y.run, .int .i64 y.stay] ++ legCells L := by simp [legCells]
    rw [hc]
    cases j with
    | zero => simp only [List.getElem?_cons_zero, Option.some.injEq] at h; subst h; exact ⟨rfl, rfl, rfl⟩
    | succ j =>
      rw [List.getElem?_cons_succ] at h
      have := ih j h
      have e : ∀ d, ([Value.int .i64 y.to, .int .i64 y.run, .int .i64 y.stay] ++ legCells L)[(j + 1) * 3 + d]? = (legCells L)[j * 3 + d]? := fun d => by
        rw [List.getElem?_append_right (by simp; omega)]
        congr 1; simp; omega
      exact ⟨(e 0).trans this.1, (e 1).trans this.2.1, (e 2).trans this.2.2⟩

/-- the legs of a train, of the call's own -/
def OwnLegs (B0 : Nat) (W : World) (v : Value) (L : List LegD) : Prop := W.ownsRow B0 74 3 v L.length (legCells L)
structure OwnT (B0 : Nat) (W : World) (v : Value) (L : List TrV) : Prop where
  row : W.ownsRow B0 72 5 v L.length (trCells L)
  legs : ∀ x ∈ L, OwnLegs B0 W x.2 x.1.legs
  apart : L.Pairwise fun x y => Off x.2 y.2
  off : ∀ x ∈ L, Off x.2 v
section
variable {B0 : Nat} {W : World} {v : Value} {L : List TrV}
theorem OwnT.nil (B0 : Nat) (W : World) : OwnT B0 W (.slice none 0 0) [] := ⟨World.ownsRow_nil _ _ _ _, fun _ hx => absurd hx List.not_mem_nil, List.Pairwise.nil, fun _ hx => absurd hx List.not_mem_nil⟩
theorem OwnT.same (h : OwnT B0 W v L) {W' : World} (hs : ∀ k, (v.ownBlock = some k ∨ ∃ x ∈ L, x.2.ownBlock = some k) → W'.heap[k]? = W.heap[k]?) : OwnT B0 W' v L :=
  ⟨ownsRow_same h.row (fun k hk => hs k (Or.inl hk)), fun x hx => ownsRow_same (h.legs x hx) (fun k hk => hs k (Or.inr ⟨x, hx, hk⟩)), h.apart, h.off⟩
theorem OwnT.lt (h : OwnT B0 W v L) {k : Nat} (hk : v.ownBlock = some k ∨ ∃ x ∈ L, x.2.ownBlock = some k) : B0 ≤ k ∧ k < W.heap.size := by
  rcases hk with hk | ⟨x, hx, hk⟩
  · exact h.row.lt k hk
  · exact (h.legs x hx).lt k hk
theorem OwnT.later (h : OwnT B0 W v L) {W' : World} (hB : Below W.heap.size W W') : OwnT B0 W' v L := h.same (fun k hk => hB.block k (h.lt hk).2)
theorem OwnT.set (h : OwnT B0 W v L) {p : Addr} (hp : p.block < B0) (x : Value) : OwnT B0 (W.setCell p x) v L := h.same (fun k hk => Below.heap_setCell W p x k (by have := (h.lt hk).1; omega))
theorem OwnT.low (h : OwnT B0 W v L) {B1 : Nat} (hb : B1 ≤ B0) : OwnT B1 W v L := ⟨Joins.ownsRow_le h.row hb, fun x hx => Joins.ownsRow_le (h.legs x hx) hb, h.apart, h.off⟩
/-- one train more -/
theorem OwnT.snoc {W' : World} {v' : Value} {t : TrL} {lv : Value} (h : OwnT B0 W v L) (ho : W'.ownsRow B0 72 5 v' (L.length + 1) (trCells L ++ [.int .i64 t.frm, .int .i64 t.ready, .int .i64 t.due, .int .i64 t.weight, lv]))
    (hl : OwnLegs B0 W lv t.legs) (ha : ∀ x ∈ L, Off x.2 lv) (hf : Off lv v) (hg : W.grownBy W' v.ownBlock) (hloc : v'.ownBlock = v.ownBlock ∨ v'.ownBlock = some W.heap.size) : OwnT B0 W' v' (L ++ [(t, lv)]) := by
  have keep : ∀ u : Value, Off u v → (∀ k, u.ownBlock = some k → k < W.heap.size) → ∀ k, u.ownBlock = some k → W'.heap[k]? = W.heap[k]? := fun u hu hlt k hk => hg.block k (hlt k hk) (fun e => hu k hk e.symm)
  have hlt : ∀ k, lv.ownBlock = some k → k < W.heap.size := fun k hk => (World.ownsRow.lt hl k hk).2
  have hlx : ∀ x ∈ L, ∀ k, x.2.ownBlock = some k → k < W.heap.size := fun x hx k hk => ((h.legs x hx).lt k hk).2
  refine ⟨by rw [trCells_snoc, List.length_append]; exact ho, fun x hx => ?_, ?_, fun x hx => ?_⟩
  · rcases List.mem_append.1 hx with hx | hx
    · exact ownsRow_same (h.legs x hx) (keep _ (h.off x hx) (hlx x hx))
    · rw [List.mem_singleton] at hx; subst hx; exact ownsRow_same hl (keep _ hf hlt)
  · rw [List.pairwise_append]
    exact ⟨h.apart, List.pairwise_singleton _ _, fun x hx y hy => by rw [List.mem_singleton] at hy; subst hy; exact ha x hx⟩
  · rcases List.mem_append.1 hx with hx | hx
    · exact (h.off x hx).loc (hlx x hx) hloc
    · rw [List.mem_singleton] at hx; subst hx; exact hf.loc hlt hloc
/-- one leg more, of the last train, where it lies -/
theorem OwnT.leg {g cap : Nat} {t : TrL} {lv lv' : Value} {n : LegD} {W1 : World} (h : OwnT B0 W (.slice (some ⟨g, 0, none⟩) (L.length + 1) cap) (L ++ [(t, lv)]))
    (ho : W1.ownsRow B0 74 3 lv' (t.legs.length + 1) (legCells t.legs ++ [.int .i64 n.to, .int .i64 n.run, .int .i64 n.stay])) (hg : W.grownBy W1 lv.ownBlock) (hloc : lv'.ownBlock = lv.ownBlock ∨ lv'.ownBlock = some W.heap.size) :
    OwnT B0 (W1.setCell ⟨g, L.length * 5 + 4, none⟩ lv') (.slice (some ⟨g, 0, none⟩) (L.length + 1) cap) (L ++ [(t.add n, lv')]) := by
  have hrow := h.row
  rw [List.length_append] at hrow
  have hoff : Off lv (.slice (some ⟨g, 0, none⟩) (L.length + 1) cap) := h.off (t, lv) (by simp)
  have gl : g < W.heap.size := (hrow.lt g rfl).2
  have hgk : W1.heap[g]? = W.heap[g]? := hg.block g gl (fun e => hoff g e.symm rfl)
  have hrow1 := ownsRow_same (W' := W1) hrow (fun k hk => by simp only [Value.ownBlock, Option.some.injEq] at hk; subst hk; exact hgk)
  have hp := List.pairwise_append.1 h.apart
  have hxl : ∀ x ∈ L, Off x.2 lv := fun x hx => hp.2.2 x hx (t, lv) (by simp)
  have hoff' : Off lv' (.slice (some ⟨g, 0, none⟩) (L.length + 1) cap) := fun k hk e => by
    rcases hloc with e2 | e2
    · exact hoff k (e2.symm.trans hk) e
    · rw [e2] at hk; cases hk; simp only [Value.ownBlock, Option.some.injEq] at e; omega
  refine ⟨?_, fun x hx => ?_, ?_, fun x hx => ?_⟩
  · have := ownsRow_put hrow1 (L.length * 5 + 4) lv'
    rw [trCells_set L t lv lv' n] at this
    rw [List.length_append]
    exact this
  · rcases List.mem_append.1 hx with hx | hx
    · refine ownsRow_same (h.legs x (List.mem_append_left _ hx)) (fun k hk => ?_)
      have hk2 := ((h.legs x (List.mem_append_left _ hx)).lt k hk).2
      rw [Below.heap_setCell W1 _ _ k (fun e => h.off x (List.mem_append_left _ hx) k hk (by rw [e]; rfl))]
      exact hg.block k hk2 (fun e => hxl x hx k hk e.symm)
    · rw [List.mem_singleton] at hx; subst hx
      unfold OwnLegs TrL.add
      dsimp only
      rw [legCells_snoc, List.length_append]
      exact ownsRow_same ho (fun k hk => Below.heap_setCell W1 _ _ k (fun e => hoff' k hk (by rw [e]; rfl)))
  · rw [List.pairwise_append]
    refine ⟨hp.1, List.pairwise_singleton _ _, fun x hx y hy => ?_⟩
    rw [List.mem_singleton] at hy; subst hy
    exact (hxl x hx).loc (fun k hk => ((h.legs x (List.mem_append_left _ hx)).lt k hk).2) hloc
  · rcases List.mem_append.1 hx with hx | hx
    · exact h.off x (List.mem_append_left _ hx)
    · rw [List.mem_singleton] at hx; subst hx; exact hoff'
end
/-- as a line's data has them -/
def nilT : TrL := ⟨0, 0, 0, 0, []⟩
def trD (t : TrL) : TrainD := ⟨t.frm, t.ready, t.due, t.weight, t.legs.length, fun m => t.legs.getD m ⟨0, 0, 0⟩⟩
def fT (L : List TrL) (j : Nat) : TrainD := trD (L.getD j nilT)
def gI (L : List Int) (j : Nat) : Int := L.getD j 0
theorem OwnLegs.legs {B0 : Nat} {W : World} {v : Value} {L : List LegD} (h : OwnLegs B0 W v L) : ∃ a cap, v = .slice a L.length cap ∧ IsLegs B0 W.heap.size W a L.length (fun m => L.getD m ⟨0, 0, 0⟩) := by
  rcases h.2 with ⟨rfl, h0⟩ | ⟨g, cap, cur, rfl, hb, hg, _⟩
  · exact ⟨none, 0, by rw [h0], fun j hj => by omega⟩
  · refine ⟨_, cap, rfl, fun j hj => ?_⟩
    have hl : L[j]? = some (L.getD j ⟨0, 0, 0⟩) := by rw [List.getD_eq_getElem?_getD, List.getElem?_eq_getElem hj]; rfl
    obtain ⟨c0, c1, c2⟩ := legCells_at L j _ hl
    have hlt := World.ownsRow.lt h g rfl
    refine ⟨g, 0, rfl, hlt.1, hlt.2, ?_, ?_, ?_⟩
    · rw [Nat.zero_add, World.ownsRow.cellAt h _ (by omega)]; exact c0
    · rw [Nat.zero_add, World.ownsRow.cellAt h _ (by omega)]; exact c1
    · rw [Nat.zero_add, World.ownsRow.cellAt h _ (by omega)]; exact c2
theorem OwnT.trains {B0 : Nat} {W : World} {v : Value} {L : List TrV} (h : OwnT B0 W v L) (hn : ∀ x ∈ L, x.1.legs.length ≤ maxLen) : ∃ a cap, v = .slice a L.length cap ∧ IsTrains B0 W.heap.size W a L.length (fT (L.map Prod.fst)) := by
  rcases h.row.2 with ⟨rfl, h0⟩ | ⟨g, cap, cur, rfl, hb, hg, _⟩
  · exact ⟨none, 0, by rw [h0], fun j hj => by omega⟩
  · refine ⟨_, cap, rfl, fun j hj => ?_⟩
    have hl : L[j]? = some L[j] := List.getElem?_eq_getElem hj
    have hf : fT (L.map Prod.fst) j = trD L[j].1 := by unfold fT; rw [List.getD_eq_getElem?_getD, List.getElem?_map, hl]; rfl
    obtain ⟨c0, c1, c2, c3, c4⟩ := trCells_at L j _ hl
    have hlt := World.ownsRow.lt h.row g rfl
    have hm : L[j] ∈ L := List.getElem_mem hj
    obtain ⟨la, lc, e4, hlg⟩ := OwnLegs.legs (h.legs _ hm)
    rw [e4] at c4
    rw [hf]
    refine ⟨g, 0, la, lc, rfl, hlt.1, hlt.2, ?_, ?_, ?_, ?_, ?_, hlg, hn _ hm⟩
    · rw [Nat.zero_add, World.ownsRow.cellAt h.row _ (by omega)]; exact c0
    · rw [Nat.zero_add, World.ownsRow.cellAt h.row _ (by omega)]; exact c1
    · rw [Nat.zero_add, World.ownsRow.cellAt h.row _ (by omega)]; exact c2
    · rw [Nat.zero_add, World.ownsRow.cellAt h.row _ (by omega)]; exact c3
    · rw [Nat.zero_add, World.ownsRow.cellAt h.row _ (by omega)]; exact c4
theorem ownInts {B0 : Nat} {W : World} {v : Value} {L : List Int} (h : W.ownsRow B0 3 1 v L.length (intCells L)) : ∃ a cap, v = .slice a L.length cap ∧ IsInts B0 W.heap.size W a L.length (gI L) := by
  rcases h.2 with ⟨rfl, h0⟩ | ⟨g, cap, cur, rfl, hb, hg, _⟩
  · exact ⟨none, 0, by rw [h0], fun j hj => by omega⟩
  · refine ⟨_, cap, rfl, fun j hj => ⟨g, 0, rfl, (World.ownsRow.lt h g rfl).1, (World.ownsRow.lt h g rfl).2, ?_⟩⟩
    rw [Nat.zero_add, World.ownsRow.cellAt h _ (by omega)]
    unfold intCells gI
    rw [List.getElem?_map, List.getD_eq_getElem?_getD, List.getElem?_eq_getElem hj]
    rfl
end Go.Proofs.YtelickcfodcmaaaGreatDoor

namespace Go.Proofs.YtelickcfodcmaaaGreatDoor
open Go.RowKit

theorem Mid.grown {lo hi : Nat} {w W W' : World} {row : Option Nat} (h : Mid lo hi w W) (hg : W.grownBy W' row) (hr : ∀ k, row = some k → w.heap.size ≤ k) (hlo : lo ≤ w.heap.size) : Mid lo hi w W' := by
  have hs := h.below.size
  have hk : ∀ k, k < w.heap.size → W'.heap[k]? = W.heap[k]? := fun k hk => hg.block k (by omega) (fun e => by have := hr k e.symm; omega)
  refine ⟨below_grown h.below hg (by omega) (fun k e => by have := hr k e; omega), fun x h0 h1 => (hk x h1).trans (h.above x h0 h1), fun b o v hc hf => ?_⟩
  obtain ⟨v', h1, h2⟩ := h.keeps b o v hc hf
  have hb : W'.heap[b]? = W.heap[b]? := hk b (ltCell hc)
  exact ⟨v', (World.cell?_of_block (w := W) (w' := W') (a := ⟨b, o, none⟩) hb).trans h1, (World.frozen?_of_block (w := W) (w' := W') (a := ⟨b, o, none⟩) hb).trans h2⟩
theorem rowMid {W W' : World} {b B0 : Nat} {e : TypeId} {size : Nat} {v : Value} {n : Nat} {xs : List Value} (h : W.ownsRow B0 e size v n xs) (hM : Mid b (b + 1) W W') (hb : b < B0) : W'.ownsRow B0 e size v n xs :=
  ownsRow_same h (fun k hk => hM.above k (by have := (h.lt k hk).1; omega) (h.lt k hk).2)
theorem info3 {P : Program} {t : TypeId} {z : Value} {s b : Nat} (h : (P.info? t).map (fun i => (i.zero, i.size, i.bytes)) = some (some z, s, b)) : ∃ i, P.info? t = some i ∧ i.zero = some z ∧ i.size = s ∧ i.bytes = b := by
  cases hi : P.info? t with
  | none => rw [hi] at h; simp at h
  | some i => rw [hi] at h; simp at h; exact ⟨i, rfl, h.1, h.2.1, h.2.2⟩
theorem ints_at {W : World} {B0 g cap : Nat} {a : List Int} (h : W.ownsRow B0 3 1 (.slice (some ⟨g, 0, none⟩) a.length cap) a.length (intCells a)) {j : Nat} (hj : j < a.length) : W.cell? ⟨g, j, none⟩ = some (.int .i64 (a.getD j 0)) := by
  rw [World.ownsRow.cellAt h j (by omega)]
  unfold intCells
  rw [List.getElem?_map, List.getD_eq_getElem?_getD, List.getElem?_eq_getElem hj]
  rfl
theorem Mid.setNew {lo hi : Nat} {w W : World} (h : Mid lo hi w W) (p : Addr) (hp : w.heap.size ≤ p.block) (hlo : lo ≤ w.heap.size) (x : Value) : Mid lo hi w (W.setCell p x) :=
  ⟨h.below.setCell (by omega) x, fun y hy hy2 => (Below.heap_setCell W p x y (by omega)).trans (h.above y hy hy2), fun b o v hc hf => by
    obtain ⟨v', h1, h2⟩ := h.keeps b o v hc hf
    obtain ⟨v2, hv2⟩ := cell?_setCell_some (w := W) (p := p) (x := x) h1
    exact ⟨v2, hv2, by rw [World.frozen?_setCell]; exact h2⟩⟩
theorem Room.keep {B m lo hi : Nat} {W W' : World} (h : Room B m W) (hM : Mid lo hi W W') : Room B m W' := fun i hi => by
  obtain ⟨v, hv, hz⟩ := h i hi
  exact hM.keeps _ _ v hv hz
theorem Room.grown {B m : Nat} {W W' : World} {row : Option Nat} (h : Room B m W) (hg : W.grownBy W' row) (hr : ∀ k, row = some k → k ≠ B) : Room B m W' := fun i hi => by
  obtain ⟨v, hv, hz⟩ := h i hi
  have hb : W'.heap[B]? = W.heap[B]? := hg.block B (ltCell hv) (fun e => hr B e.symm rfl)
  exact ⟨v, (World.cell?_of_block (w := W) (w' := W') (a := ⟨B, i, none⟩) hb).trans hv, (World.frozen?_of_block (w := W) (w' := W') (a := ⟨B, i, none⟩) hb).trans hz⟩
/-- tracks and trains of the call's own, in blocks apart -/
structure LOwn (B0 : Nat) (W : World) (tr : List Int) (L : List TrV) (vt vT : Value) : Prop where
  ints : W.ownsRow B0 3 1 vt tr.length (intCells tr)
  trs : OwnT B0 W vT L
  off : Off vt vT
  offs : ∀ x ∈ L, Off vt x.2
section
variable {B0 : Nat} {W W' : World} {tr : List Int} {L : List TrV} {vt vT : Value}
theorem LOwn.same (h : LOwn B0 W tr L vt vT) (hs : ∀ k, B0 ≤ k → k < W.heap.size → W'.heap[k]? = W.heap[k]?) : LOwn B0 W' tr L vt vT :=
  ⟨ownsRow_same h.ints (fun k hk => hs k (h.ints.lt k hk).1 (h.ints.lt k hk).2), h.trs.same (fun k hk => hs k (h.trs.lt hk).1 (h.trs.lt hk).2), h.off, h.offs⟩
theorem LOwn.later (h : LOwn B0 W tr L vt vT) (hB : Below W.heap.size W W') : LOwn B0 W' tr L vt vT := h.same (fun k _ hk => hB.block k hk)
theorem LOwn.mid {b : Nat} (h : LOwn B0 W tr L vt vT) (hM : Mid b (b + 1) W W') (hb : b < B0) : LOwn B0 W' tr L vt vT := h.same (fun k h0 h1 => hM.above k (by omega) h1)
theorem LOwn.set (h : LOwn B0 W tr L vt vT) (p : Addr) (hp : p.block < B0) (x : Value) : LOwn B0 (W.setCell p x) tr L vt vT := h.same (fun k h0 _ => Below.heap_setCell W p x k (by omega))
theorem LOwn.low (h : LOwn B0 W tr L vt vT) {B1 : Nat} (hb : B1 ≤ B0) : LOwn B1 W tr L vt vT := ⟨Joins.ownsRow_le h.ints hb, h.trs.low hb, h.off, h.offs⟩
theorem LOwn.snoc {v' : Value} {t : TrL} {lv : Value} (h : LOwn B0 W tr L vt vT) (ho : W'.ownsRow B0 72 5 v' (L.length + 1) (trCells L ++ [.int .i64 t.frm, .int .i64 t.ready, .int .i64 t.due, .int .i64 t.weight, lv]))
    (hl : OwnLegs B0 W lv t.legs) (hn : ∀ k, lv.ownBlock = some k → vt.ownBlock ≠ some k ∧ vT.ownBlock ≠ some k ∧ ∀ x ∈ L, x.2.ownBlock ≠ some k) (hg : W.grownBy W' vT.ownBlock) (hloc : v'.ownBlock = vT.ownBlock ∨ v'.ownBlock = some W.heap.size) : LOwn B0 W' tr (L ++ [(t, lv)]) vt v' := by
  refine ⟨ownsRow_same h.ints (fun k hk => hg.block k (h.ints.lt k hk).2 (fun e => h.off k hk e.symm)), h.trs.snoc ho hl (fun x hx k hk e => (hn k e).2.2 x hx hk) (fun k hk => (hn k hk).2.1) hg hloc, h.off.loc (fun k hk => (h.ints.lt k hk).2) hloc, fun x hx => ?_⟩
  rcases List.mem_append.1 hx with hx | hx
  · exact h.offs x hx
  · rw [List.mem_singleton] at hx; subst hx; exact fun k hk e => (hn k e).1 hk
end
structure LBox (B0 bl : Nat) (W : World) (tr : List Int) (gap : Int) (L : List TrV) (vt vT : Value) : Prop where
  c0 : W.cell? ⟨bl, 0, none⟩ = some vt
  c1 : W.cell? ⟨bl, 1, none⟩ = some (.int .i64 gap)
  c2 : W.cell? ⟨bl, 2, none⟩ = some vT
  z0 : W.frozen? ⟨bl, 0, none⟩ = false
  z1 : W.frozen? ⟨bl, 1, none⟩ = false
  z2 : W.frozen? ⟨bl, 2, none⟩ = false
  lt : bl < B0
  own : LOwn B0 W tr L vt vT
section
variable {B0 bl : Nat} {W W' : World} {tr : List Int} {gap : Int} {L : List TrV} {vt vT : Value}
theorem LBox.same (h : LBox B0 bl W tr gap L vt vT) (hb : W'.heap[bl]? = W.heap[bl]?) (hs : ∀ k, B0 ≤ k → k < W.heap.size → W'.heap[k]? = W.heap[k]?) : LBox B0 bl W' tr gap L vt vT := by
  have cc : ∀ o u, W.cell? ⟨bl, o, none⟩ = some u → W'.cell? ⟨bl, o, none⟩ = some u := fun o u hu => (World.cell?_of_block (w := W) (w' := W') (a := ⟨bl, o, none⟩) hb).trans hu
  have zz : ∀ o, W.frozen? ⟨bl, o, none⟩ = false → W'.frozen? ⟨bl, o, none⟩ = false := fun o hu => (World.frozen?_of_block (w := W) (w' := W') (a := ⟨bl, o, none⟩) hb).trans hu
  exact ⟨cc 0 _ h.c0, cc 1 _ h.c1, cc 2 _ h.c2, zz 0 h.z0, zz 1 h.z1, zz 2 h.z2, h.lt, h.own.same hs⟩
theorem LBox.later (h : LBox B0 bl W tr gap L vt vT) (hB : Below W.heap.size W W') : LBox B0 bl W' tr gap L vt vT := h.same (hB.block _ (ltCell h.c0)) (fun k _ hk => hB.block k hk)
theorem LBox.mid {b : Nat} (h : LBox B0 bl W tr gap L vt vT) (hM : Mid b (b + 1) W W') (hb : b < bl) : LBox B0 bl W' tr gap L vt vT :=
  h.same (hM.above _ hb (ltCell h.c0)) (fun k h0 h1 => hM.above k (by have := h.lt; omega) h1)
/-- the tracks, laid into the box -/
theorem LBox.tracks {tr' : List Int} {vt' : Value} (h : LBox B0 bl W tr gap [] vt (.slice none 0 0)) (ho : W.ownsRow B0 3 1 vt' tr'.length (intCells tr')) : LBox B0 bl (W.setCell ⟨bl, 0, none⟩ vt') tr' gap [] vt' (.slice none 0 0) := by
  have hl := h.lt
  refine ⟨World.cell?_setCell_same _ _ _ h.c0, (cell_set_ne (by omega)).trans h.c1, (cell_set_ne (by omega)).trans h.c2, (World.frozen?_setCell ..).trans h.z0, (World.frozen?_setCell ..).trans h.z1, (World.frozen?_setCell ..).trans h.z2, hl, ⟨ownsRow_setCell_below ho hl _, OwnT.nil _ _, fun k _ e => by simp [Value.ownBlock] at e, fun x hx => absurd hx List.not_mem_nil⟩⟩
theorem LBox.gap_ (h : LBox B0 bl W tr gap L vt vT) (gap' : Int) : LBox B0 bl (W.setCell ⟨bl, 1, none⟩ (.int .i64 gap')) tr gap' L vt vT := by
  have hl := h.lt
  exact ⟨(cell_set_ne (by omega)).trans h.c0, World.cell?_setCell_same _ _ _ h.c1, (cell_set_ne (by omega)).trans h.c2, (World.frozen?_setCell ..).trans h.z0, (World.frozen?_setCell ..).trans h.z1, (World.frozen?_setCell ..).trans h.z2, hl, h.own.set _ hl _⟩
/-- one train more, laid into the box -/
theorem LBox.snoc {v' : Value} {t : TrL} {lv : Value} (h : LBox B0 bl W tr gap L vt vT) (ho : W'.ownsRow B0 72 5 v' (L.length + 1) (trCells L ++ [.int .i64 t.frm, .int .i64 t.ready, .int .i64 t.due, .int .i64 t.weight, lv]))
    (hl : OwnLegs B0 W lv t.legs) (hn : ∀ k, lv.ownBlock = some k → vt.ownBlock ≠ some k ∧ vT.ownBlock ≠ some k ∧ ∀ x ∈ L, x.2.ownBlock ≠ some k) (hg : W.grownBy W' vT.ownBlock) (hloc : v'.ownBlock = vT.ownBlock ∨ v'.ownBlock = some W.heap.size) : LBox B0 bl (W'.setCell ⟨bl, 2, none⟩ v') tr gap (L ++ [(t, lv)]) vt v' := by
  have hlt := h.lt
  have hlb := ltCell h.c0
  dsimp only at hlb
  have hb : W'.heap[bl]? = W.heap[bl]? := hg.block bl hlb (fun e => by have := (h.own.trs.lt (Or.inl e.symm)).1; omega)
  have cc : ∀ o u, W.cell? ⟨bl, o, none⟩ = some u → W'.cell? ⟨bl, o, none⟩ = some u := fun o u hu => (World.cell?_of_block (w := W) (w' := W') (a := ⟨bl, o, none⟩) hb).trans hu
  have zz : ∀ o, W.frozen? ⟨bl, o, none⟩ = false → W'.frozen? ⟨bl, o, none⟩ = false := fun o hu => (World.frozen?_of_block (w := W) (w' := W') (a := ⟨bl, o, none⟩) hb).trans hu
  exact ⟨(cell_set_ne (by omega)).trans (cc 0 _ h.c0), (cell_set_ne (by omega)).trans (cc 1 _ h.c1), World.cell?_setCell_same _ _ _ (cc 2 _ h.c2), (World.frozen?_setCell ..).trans (zz 0 h.z0), (World.frozen?_setCell ..).trans (zz 1 h.z1), (World.frozen?_setCell ..).trans (zz 2 h.z2), hlt, (h.own.snoc ho hl hn hg hloc).set _ hlt _⟩
end
theorem TrV_one {t : TrL} {la : Option Addr} {n c : Nat} : ∀ u ∈ [Value.int .i64 t.frm, .int .i64 t.ready, .int .i64 t.due, .int .i64 t.weight, .slice la n c], u.oneCell' = true := by
  intro u hu
  simp only [List.mem_cons, List.not_mem_nil, or_false] at hu
  rcases hu with rfl | rfl | rfl | rfl | rfl <;> rfl
/-- a train's box at block bt, its legs of the call's own -/
structure TBox (B0 bt : Nat) (W : World) (t : TrL) (lv : Value) : Prop where
  c0 : W.cell? ⟨bt, 0, none⟩ = some (.int .i64 t.frm)
  c1 : W.cell? ⟨bt, 1, none⟩ = some (.int .i64 t.ready)
  c2 : W.cell? ⟨bt, 2, none⟩ = some (.int .i64 t.due)
  c3 : W.cell? ⟨bt, 3, none⟩ = some (.int .i64 t.weight)
  c4 : W.cell? ⟨bt, 4, none⟩ = some lv
  z4 : W.frozen? ⟨bt, 4, none⟩ = false
  legs : OwnLegs B0 W lv t.legs
  off : lv.ownBlock ≠ some bt
section
variable {B0 bt : Nat} {W W' : World} {t : TrL} {lv : Value}
theorem TBox.same (h : TBox B0 bt W t lv) (hb : W'.heap[bt]? = W.heap[bt]?) (hl : ∀ k, lv.ownBlock = some k → W'.heap[k]? = W.heap[k]?) : TBox B0 bt W' t lv := by
  have cc : ∀ o u, W.cell? ⟨bt, o, none⟩ = some u → W'.cell? ⟨bt, o, none⟩ = some u := fun o u hu => (World.cell?_of_block (w := W) (w' := W') (a := ⟨bt, o, none⟩) hb).trans hu
  exact ⟨cc 0 _ h.c0, cc 1 _ h.c1, cc 2 _ h.c2, cc 3 _ h.c3, cc 4 _ h.c4, (World.frozen?_of_block (w := W) (w' := W') (a := ⟨bt, 4, none⟩) hb).trans h.z4, ownsRow_same h.legs hl, h.off⟩
theorem TBox.later (h : TBox B0 bt W t lv) (hB : Below W.heap.size W W') : TBox B0 bt W' t lv :=
  h.same (hB.block _ (ltCell h.c0)) (fun k hk => hB.block k (World.ownsRow.lt h.legs k hk).2)
theorem TBox.mid {b : Nat} (h : TBox B0 bt W t lv) (hM : Mid b (b + 1) W W') (h0 : b < B0) (h1 : b < bt) : TBox B0 bt W' t lv :=
  h.same (hM.above _ h1 (ltCell h.c0)) (fun k hk => hM.above k (by have := (World.ownsRow.lt h.legs k hk).1; omega) (World.ownsRow.lt h.legs k hk).2)
/-- one leg more -/
theorem TBox.add {g : LegD} {lv' : Value} (h : TBox B0 bt W t lv) (ho : W'.ownsRow B0 74 3 lv' (t.legs.length + 1) (legCells t.legs ++ [.int .i64 g.to, .int .i64 g.run, .int .i64 g.stay])) (hg : W.grownBy W' lv.ownBlock) (hloc : lv'.ownBlock = lv.ownBlock ∨ lv'.ownBlock = some W.heap.size) :
    TBox B0 bt (W'.setCell ⟨bt, 4, none⟩ lv') (t.add g) lv' := by
  have hlt := ltCell h.c0
  dsimp only at hlt
  have hb : W'.heap[bt]? = W.heap[bt]? := hg.block bt hlt (fun e => h.off e.symm)
  have cc : ∀ o u, W.cell? ⟨bt, o, none⟩ = some u → W'.cell? ⟨bt, o, none⟩ = some u := fun o u hu => (World.cell?_of_block (w := W) (w' := W') (a := ⟨bt, o, none⟩) hb).trans hu
  have hoff : lv'.ownBlock ≠ some bt := fun e => by
    rcases hloc with e2 | e2
    · exact h.off (e2.symm.trans e)
    · rw [e2] at e; cases e; omega
  refine ⟨(cell_set_ne (by omega)).trans (cc 0 _ h.c0), (cell_set_ne (by omega)).trans (cc 1 _ h.c1), (cell_set_ne (by omega)).trans (cc 2 _ h.c2), (cell_set_ne (by omega)).trans (cc 3 _ h.c3), World.cell?_setCell_same _ _ _ (cc 4 _ h.c4), ?_, ?_, hoff⟩
  · rw [World.frozen?_setCell]; exact (World.frozen?_of_block (w := W) (w' := W') (a := ⟨bt, 4, none⟩) hb).trans h.z4
  · unfold OwnLegs TrL.add
    dsimp only
    rw [legCells_snoc, List.length_append]
    exact ownsRow_same ho (fun k hk => Below.heap_setCell W' _ _ k (fun e => hoff (by rw [hk, e])))
end
end Go.Proofs.YtelickcfodcmaaaGreatDoor

namespace Go.Proofs.YtelickcfodcmaaaGreatDoor
open Go.RowKit

theorem le_sum {L : List Nat} {x : Nat} (h : x ∈ L) : x ≤ L.sum := by
  induction L with
  | nil => cases h
  | cons y L ih =>
    rw [List.sum_cons]
    rcases List.mem_cons.1 h with rfl | h
    · omega
    · have := ih h; omega
/-- legs, each to the next station, within the line -/
inductive Walk (n : Int) (frm : Int) : List LegD → Int → Prop
  | nil : Walk n frm [] frm
  | snoc {L : List LegD} {at_ : Int} {g : LegD} (h : Walk n frm L at_) (h1 : g.to = at_ + 1 ∨ g.to = at_ - 1) (h2 : 0 ≤ g.to) (h3 : g.to < n) (h4 : 1 ≤ g.run) (h5 : g.run ≤ 30) (h6 : 0 ≤ g.stay) (h7 : g.stay ≤ 5) : Walk n frm (L ++ [g]) g.to
/-- a drawn train -/
structure DrawnT (n : Nat) (t : TrL) : Prop where
  frm : 0 ≤ t.frm ∧ t.frm < n
  ready : 0 ≤ t.ready ∧ t.ready ≤ 40
  due : 0 ≤ t.due ∧ t.due ≤ 1000
  weight : 1 ≤ t.weight ∧ t.weight ≤ 4
  some_ : 0 < t.legs.length
  walk : ∃ at_, Walk n t.frm t.legs at_
structure DrawnL (l : LnL) : Prop where
  tr : 2 ≤ l.tracks.length ∧ l.tracks.length ≤ 5
  nums : ∀ z ∈ l.tracks, 1 ≤ z ∧ z ≤ 3
  gap : 0 ≤ l.gap ∧ l.gap ≤ 4
  trs : l.trains.length ≤ 5
  legs : (l.trains.map fun t => t.legs.length).sum ≤ 10
  each : ∀ t ∈ l.trains, DrawnT l.tracks.length t
  some : 0 < l.trains.length

def prevTo (frm : Int) (L : List LegD) (j : Nat) : Int := match j with
  | 0 => frm
  | j + 1 => (L.getD j ⟨0, 0, 0⟩).to
theorem Walk.legs {n frm : Int} {L : List LegD} {at_ : Int} (h : Walk n frm L at_) : at_ = prevTo frm L L.length ∧ ∀ j, j < L.length → 0 ≤ (L.getD j ⟨0, 0, 0⟩).to ∧ (L.getD j ⟨0, 0, 0⟩).to < n ∧ ((L.getD j ⟨0, 0, 0⟩).to = prevTo frm L j + 1 ∨ (L.getD j ⟨0, 0, 0⟩).to = prevTo frm L j - 1) ∧ 1 ≤ (L.getD j ⟨0, 0, 0⟩).run ∧ (L.getD j ⟨0, 0, 0⟩).run ≤ 30 ∧ 0 ≤ (L.getD j ⟨0, 0, 0⟩).stay ∧ (L.getD j ⟨0, 0, 0⟩).stay ≤ 5 := by
  induction h with
  | nil => exact ⟨rfl, fun j hj => by simp at hj⟩
  | @snoc L at_ g h h1 h2 h3 h4 h5 h6 h7 ih =>
    have hlast : (L ++ [g]).getD L.length ⟨0, 0, 0⟩ = g := by simp [List.getD_eq_getElem?_getD]
    have hold : ∀ j, j < L.length → (L ++ [g]).getD j ⟨0, 0, 0⟩ = L.getD j ⟨0, 0, 0⟩ := fun j hj => by simp [List.getD_eq_getElem?_getD, List.getElem?_append_left hj]
    have hprev : ∀ j, j ≤ L.length → prevTo frm (L ++ [g]) j = prevTo frm L j := fun j hj => by
      cases j with
      | zero => rfl
      | succ j => simp only [prevTo]; rw [hold j (by omega)]
    refine ⟨?_, fun j hj => ?_⟩
    · rw [List.length_append]; show g.to = ((L ++ [g]).getD L.length ⟨0, 0, 0⟩).to; rw [hlast]
    · rw [List.length_append] at hj
      simp only [List.length_cons, List.length_nil] at hj
      by_cases e : j = L.length
      · subst e
        rw [hlast, hprev _ (Nat.le_refl _), ← ih.1]
        exact ⟨h2, h3, h1, h4, h5, h6, h7⟩
      · rw [hold j (by omega), hprev j (by omega)]
        exact ih.2 j (by omega)
theorem cur_prev (t : TrL) (j : Nat) : cur (trD t) j = prevTo t.frm t.legs j := by
  cases j with
  | zero => rfl
  | succ j => rfl
theorem DrawnT.right {n : Nat} {t : TrL} (h : DrawnT n t) : trainB n (trD t) = true := by
  obtain ⟨at_, hw⟩ := h.walk
  have hl := hw.legs.2
  have h1 := h.frm
  have h2 := h.ready
  have h3 := h.due
  have h4 := h.weight
  have h5 := h.some_
  have hlegs : legsB n (trD t) = true := by
    unfold legsB
    rw [decide_eq_true_eq]
    intro j hj
    obtain ⟨a1, a2, a3, a4, a5, a6, a7⟩ := hl j hj
    rw [cur_prev, show (trD t).leg j = t.legs.getD j ⟨0, 0, 0⟩ from rfl]
    unfold legB nextTo inB
    show (decide _ && decide _ && decide _ && decide _) = true
    simp only [Bool.and_eq_true, decide_eq_true_eq]
    exact ⟨⟨⟨⟨a1, by omega⟩, a3⟩, a4, by omega⟩, a6, by omega⟩
  unfold trainB inB
  rw [hlegs]
  show (decide (0 ≤ t.frm ∧ t.frm ≤ (n : Int) - 1) && decide (0 ≤ t.ready ∧ t.ready ≤ 100000) && decide (0 ≤ t.due ∧ t.due ≤ 100000) && decide (1 ≤ t.weight ∧ t.weight ≤ 100) && decide (0 < t.legs.length) && true) = true
  simp only [Bool.and_eq_true, decide_eq_true_eq, and_true]
  omega
theorem legSum_take (ts : List TrL) : ∀ k, k ≤ ts.length → legSum (fT ts) k = ((ts.take k).map fun t => t.legs.length).sum
  | 0, _ => rfl
  | k + 1, hk => by
    rw [legSum, legSum_take ts k (by omega), List.take_succ_eq_append_getElem (by omega), List.map_append, List.sum_append]
    congr 1
    unfold fT
    rw [List.getD_eq_getElem?_getD, List.getElem?_eq_getElem (by omega)]
    simp [trD]
theorem DrawnL.right {l : LnL} (h : DrawnL l) : faultOf l.tracks.length (gI l.tracks) l.gap l.trains.length (fT l.trains) = (0, 0) := by
  have h1 := h.tr
  have h2 := h.gap
  have h3 := h.trs
  refine faultOf_zero ⟨?_, ?_, h3, ?_⟩ (fun j hj => ?_) (fun j hj => ?_)
  · unfold inB; rw [decide_eq_true_eq]; omega
  · unfold inB; rw [decide_eq_true_eq]; omega
  · rw [legSum_take _ _ (Nat.le_refl _), List.take_length]; exact h.legs
  · have := h.nums (gI l.tracks j) (by unfold gI; rw [List.getD_eq_getElem?_getD, List.getElem?_eq_getElem hj]; exact List.getElem_mem hj)
    unfold inB; rw [decide_eq_true_eq]; omega
  · have hf : fT l.trains j = trD l.trains[j] := by unfold fT; rw [List.getD_eq_getElem?_getD, List.getElem?_eq_getElem hj]; rfl
    rw [hf]
    exact (h.each _ (List.getElem_mem hj)).right
end Go.Proofs.YtelickcfodcmaaaGreatDoor

namespace Go.Proofs.YtelickcfodcmaaaGreatDoor
open Go.RowKit

/-- the first region of a code -/
def firstRegC : Code → Option Nat
  | .region i _ _ => some i
  | .seq a b => match firstRegC a with
    | some i => some i
    | none => firstRegC b
  | .block _ c => firstRegC c
  | .scope c => firstRegC c
  | .loop c => firstRegC c
  | _ => none
/-- the body of the loop that begins with a region -/
def loopAtC (id : Nat) : Code → Option Code
  | .loop c => match firstRegC c with
    | some i => if i = id then some c else loopAtC id c
    | none => loopAtC id c
  | .seq a b => match loopAtC id a with
    | some c => some c
    | none => loopAtC id b
  | .block _ c => loopAtC id c
  | .scope c => loopAtC id c
  | .cond _ a b => match loopAtC id a with
    | some c => some c
    | none => loopAtC id b
  | _ => none
noncomputable def lineL : Code := ((Tryz.f19.body.bind (loopAtC 14)).getD .skip)

theorem Cur.grown {w0 W W' : World} {b k : Nat} {row : Option Nat} (h : Cur w0 b k W) (hg : W.grownBy W' row) (hr : ∀ j, row = some j → b < j) : Cur w0 b k W' :=
  h.same (below_grown h.base hg (by have := h.base.size; omega) (fun j hj => by have := hr j hj; have := h.lo; omega)) (hg.block b h.lt (fun e => by have := hr b e.symm; omega))
theorem Cur.set {w0 W : World} {b k : Nat} (h : Cur w0 b k W) (p : Addr) (hp : b < p.block) (x : Value) : Cur w0 b k (W.setCell p x) :=
  h.same (h.base.setCell (by have := h.lo; omega) x) (Below.heap_setCell W p x b (by omega))
theorem TBox.grown4 {B0 bt : Nat} {W W' : World} {t : TrL} {lv : Value} (h : TBox B0 bt W t lv) (hg : W.grownBy W' lv.ownBlock) : W'.cell? ⟨bt, 4, none⟩ = some lv ∧ W'.frozen? ⟨bt, 4, none⟩ = false := by
  have hbk : W'.heap[bt]? = W.heap[bt]? := hg.block bt (ltCell h.c0) (fun e => h.off e.symm)
  exact ⟨(World.cell?_of_block (w := W) (w' := W') (a := ⟨bt, 4, none⟩) hbk).trans h.c4, (World.frozen?_of_block (w := W) (w' := W') (a := ⟨bt, 4, none⟩) hbk).trans h.z4⟩
theorem TBox.due {B0 bt : Nat} {W : World} {t : TrL} {lv : Value} (h : TBox B0 bt W t lv) (d : Int) : TBox B0 bt (W.setCell ⟨bt, 2, none⟩ (.int .i64 d)) { t with due := d } lv :=
  ⟨(cell_set_ne (by omega)).trans h.c0, (cell_set_ne (by omega)).trans h.c1, World.cell?_setCell_same _ _ _ h.c2, (cell_set_ne (by omega)).trans h.c3, (cell_set_ne (by omega)).trans h.c4, (World.frozen?_setCell ..).trans h.z4, ownsRow_same h.legs (fun k hk => Below.heap_setCell W _ _ k (fun e => h.off (by rw [hk, e]))), h.off⟩
theorem LBox.grown2 {B0 bl : Nat} {W W' : World} {tr : List Int} {gap : Int} {L : List TrV} {vt vT : Value} (h : LBox B0 bl W tr gap L vt vT) (hg : W.grownBy W' vT.ownBlock) : W'.cell? ⟨bl, 2, none⟩ = some vT ∧ W'.frozen? ⟨bl, 2, none⟩ = false := by
  have hlt := h.lt
  have hbk : W'.heap[bl]? = W.heap[bl]? := hg.block bl (ltCell h.c0) (fun e => by have := (h.own.trs.lt (Or.inl e.symm)).1; omega)
  exact ⟨(World.cell?_of_block (w := W) (w' := W') (a := ⟨bl, 2, none⟩) hbk).trans h.c2, (World.frozen?_of_block (w := W) (w' := W') (a := ⟨bl, 2, none⟩) hbk).trans h.z2⟩
theorem legs_lie (W : World) (x y z : Int) (o : Obj) : ∀ (j : Nat) (u : Value), [Value.int .i64 x, .int .i64 y, .int .i64 z][j]? = some u → ((W.alloc o).alloc (.cells #[.int .i64 x, .int .i64 y, .int .i64 z] 74)).cell? ((⟨W.heap.size + 1, 0, none⟩ : Addr).add j) = some u := fun j u hj => by
  have h := cells3_lie (W := W.alloc o) (x := .int .i64 x) (y := .int .i64 y) (z := .int .i64 z) (t := 74) j u hj
  rw [World.size_alloc] at h
  exact h
/-- a train in the making -/
structure LegsI (w0 : World) (b bt N kC g k0 : Nat) (y1 y2 y3 : Int) (v3 : World) (g' kk k3 : Nat) (up at' sum : Int) (t : TrL) (lv : Value) (W : World) : Prop where
  tb : TBox (bt + 1) bt W t lv
  same : t.frm = y1 ∧ t.ready = y2 ∧ t.weight = 1 + y3
  gl : t.legs.length + g' = g
  kl : t.legs.length + k3 = k0
  walk : Walk N y1 t.legs at'
  at_ : 0 ≤ at' ∧ at' < N
  up : up = 0 ∨ up = 1
  sum : 0 ≤ sum ∧ sum ≤ 40 + 40 * (t.legs.length : Int)
  cur : Cur w0 b kk W
  kk : kk ≤ kC + 10 + 4 * t.legs.length
  mid : Mid b (b + 1) v3 W
  room : Room bt 5 W
theorem LegsI.step {w0 : World} {b bt N kC g k0 : Nat} {y1 y2 y3 : Int} {v3 : World} {g' kk k3 : Nat} {up at' sum : Int} {t : TrL} {lv : Value} {W v6 v7 W1 : World} {up' tz y6 y7 : Int} {v' : Value} {o o' : Obj}
    (hI : LegsI w0 b bt N kC g k0 y1 y2 y3 v3 g' kk k3 up at' sum t lv W) (hv3 : bt = v3.heap.size) (hbt : b < bt) (hE6 : Mid b (b + 1) W v6) (hE7 : Mid b (b + 1) v6 v7) (hD7 : Cur w0 b (kk + 2 + 2) v7)
    (hg' : 0 < g') (hk3 : 0 < k3) (hup : up' = 0 ∨ up' = 1) (hto : tz = at' + 1 ∨ tz = at' - 1) (ht0 : 0 ≤ tz) (ht1 : tz < N) (hy6 : 0 ≤ y6) (hy61 : y6 < 30 ∨ y6 = 0) (hy7 : 0 ≤ y7) (hy71 : y7 < 6 ∨ y7 = 0)
    (ho : W1.ownsRow (bt + 1) 74 3 v' (t.legs.length + 1) (legCells t.legs ++ [.int .i64 tz, .int .i64 (1 + y6), .int .i64 y7])) (hgr : ((v7.alloc o).alloc o').grownBy W1 lv.ownBlock) (hloc : v'.ownBlock = lv.ownBlock ∨ v'.ownBlock = some (v7.heap.size + 1 + 1)) :
    LegsI w0 b bt N kC g k0 y1 y2 y3 v3 (g' - 1) (kk + 2 + 2) (k3 - 1) up' tz (sum + (1 + y6 + y7)) (t.add ⟨tz, 1 + y6, y7⟩) v' (W1.setCell ⟨bt, 4, none⟩ v') := by
  have hTB7 := (hI.tb.mid hE6 (by omega) hbt).mid hE7 (by omega) hbt
  have hTBA := (hTB7.later (b1 v7 o)).later (b1 (v7.alloc o) o')
  have hrow : ∀ k, lv.ownBlock = some k → bt + 1 ≤ k := fun k hk => (World.ownsRow.lt hTBA.legs k hk).1
  have hgl := hI.gl
  have hkl := hI.kl
  have hkk := hI.kk
  have hsm := hI.sum
  have hlen : (t.add ⟨tz, 1 + y6, y7⟩).legs.length = t.legs.length + 1 := by unfold TrL.add; simp
  have hMA : Mid b (b + 1) v3 ((v7.alloc o).alloc o') := ((((hI.mid.trans hE6).trans hE7).trans (Mid.ofBelow (b1 v7 o) (by have := hD7.lt; omega))).trans (Mid.ofBelow (b1 (v7.alloc o) o') (by have := hD7.lt; rw [World.size_alloc]; omega)))
  exact ⟨hTBA.add (g := ⟨tz, 1 + y6, y7⟩) ho hgr (by simpa [World.size_alloc] using hloc), hI.same, by rw [hlen]; omega, by rw [hlen]; omega, Walk.snoc (g := ⟨tz, 1 + y6, y7⟩) hI.walk hto ht0 ht1 (by dsimp only; omega) (by dsimp only; omega) (by dsimp only; omega) (by dsimp only; omega), ⟨ht0, ht1⟩, hup, by rw [hlen]; omega,
    (((hD7.later (b1 v7 o)).later (b1 (v7.alloc o) o')).grown hgr (fun j hj => by have := hrow j hj; omega)).set _ hbt _, by rw [hlen]; omega, (hMA.grown hgr (fun j hj => by have := hrow j hj; omega) (by omega)).setNew _ (by show v3.heap.size ≤ bt; omega) (by omega) _,
    (((((hI.room.keep hE6).keep hE7).keep (Mid.ofBelow (lo := 0) (hi := 0) (b1 v7 o) (Nat.zero_le _))).keep (Mid.ofBelow (lo := 0) (hi := 0) (b1 (v7.alloc o) o') (Nat.zero_le _))).grown hgr (fun j hj e => by have := hrow j hj; omega)).set _ _⟩
set_option maxRecDepth 20000 in
set_option maxHeartbeats 8000000 in
theorem line_legs {s1 s2 s3 s4 s5 s6 s14 s15 s16 s17 s18 s19 s20 s21 s22 s23 s24 s25 s26 s27 s28 s29 s30 s31 s32 s33 s34 s35 s36 s37 s38 s39 s40 s41 s42 s43 s44 s45 s46 s47 s48 s49 s50 s51 s52 s53 s54 s55 s56 s57 s58 s59 s60 s61 s62 s63 s64 s65 s66 s67 s68 s69 s70 s71 s72 s73 s74 s75 s76 s77 s78 s79 s80 s81 s82 s83 s84 s85 s86 s87 s88 s89 s90 s91 s92 s93 s94 s95 s96 s97 s98 s99 s100 s101 s102 s103 s104 s105 s106 s107 s108 s109 s110 s111 s112 s113 s114 s115 s116 s117 s118 s119 s120 s121 s122 s123 s124 s125 s126 s127 s128 s129 : Value} (w0 : World) (b bt N kC g k0 : Nat) (y1 y2 y3 y4 : Int) (v3 v5 : World) (K : Act → World → Prop) (Q : Exit → Act → World → Prop)
    (hK : ∀ (u14 u70 u71 u72 u73 u74 u75 u76 u77 u78 u79 u80 u81 u82 u83 u84 u85 u86 u87 u88 u89 u90 u91 u92 u93 u94 u95 u96 u97 u98 u99 u100 u101 u102 u103 u104 u105 u106 u107 u108 u109 u110 c8 c10 c11 c12 c13 : Value) (g' kk k3 : Nat) (up at' sum : Int) (t : TrL) (lv : Value) (W : World), LegsI w0 b bt N kC g k0 y1 y2 y3 v3 g' kk k3 up at' sum t lv W → 0 < t.legs.length → c8 = .int .i64 g' → c12 = .int .i64 sum → K ⟨(.pointer (some ⟨b, 0, none⟩) :: s1 :: s2 :: s3 :: s4 :: s5 :: s6 :: .int .i64 N :: c8 :: .pointer (some ⟨bt, 0, none⟩) :: c10 :: c11 :: c12 :: c13 :: u14 :: s15 :: s16 :: s17 :: s18 :: s19 :: s20 :: s21 :: s22 :: s23 :: s24 :: s25 :: s26 :: s27 :: s28 :: s29 :: s30 :: s31 :: s32 :: s33 :: s34 :: s35 :: s36 :: s37 :: s38 :: s39 :: s40 :: s41 :: s42 :: s43 :: s44 :: s45 :: s46 :: s47 :: s48 :: s49 :: s50 :: s51 :: s52 :: s53 :: s54 :: s55 :: s56 :: s57 :: s58 :: s59 :: s60 :: s61 :: s62 :: s63 :: s64 :: s65 :: s66 :: s67 :: s68 :: s69 :: u70 :: u71 :: u72 :: u73 :: u74 :: u75 :: u76 :: u77 :: u78 :: u79 :: u80 :: u81 :: u82 :: u83 :: u84 :: u85 :: u86 :: u87 :: u88 :: u89 :: u90 :: u91 :: u92 :: u93 :: u94 :: u95 :: u96 :: u97 :: u98 :: u99 :: u100 :: u101 :: u102 :: u103 :: u104 :: u105 :: u106 :: u107 :: u108 :: u109 :: u110 :: s111 :: s112 :: s113 :: s114 :: s115 :: s116 :: s117 :: s118 :: s119 :: s120 :: s121 :: s122 :: s123 :: s124 :: s125 :: s126 :: s127 :: s128 :: s129 :: []).toArray, []⟩ W)
    (hkC : kC ≤ 5000) (hN : 2 ≤ N ∧ N ≤ 5) (hg : 0 < g ∧ g ≤ 9) (hk0 : 1 ≤ k0 ∧ k0 ≤ 4) (hbt : b < bt) (hv3 : bt = v3.heap.size)
    (hI : LegsI w0 b bt N kC g k0 y1 y2 y3 v3 g (kC + 10) k0 y4 y1 y2 ⟨y1, y2, 0, 1 + y3, []⟩ (.slice none 0 0) v5) :
    Code.wp Tryz.prog (Code.loop lineL) (Exit.inBlock 4 (Exit.then K (Exit.inBlock 3 Q))) ⟨(.pointer (some ⟨b, 0, none⟩) :: s1 :: s2 :: s3 :: s4 :: s5 :: s6 :: .int .i64 N :: .int .i64 g :: .pointer (some ⟨bt, 0, none⟩) :: .int .i64 y4 :: .int .i64 y1 :: .int .i64 y2 :: .int .i64 k0 :: s14 :: s15 :: s16 :: s17 :: s18 :: s19 :: s20 :: s21 :: s22 :: s23 :: s24 :: s25 :: s26 :: s27 :: s28 :: s29 :: s30 :: s31 :: s32 :: s33 :: s34 :: s35 :: s36 :: s37 :: s38 :: s39 :: s40 :: s41 :: s42 :: s43 :: s44 :: s45 :: s46 :: s47 :: s48 :: s49 :: s50 :: s51 :: s52 :: s53 :: s54 :: s55 :: s56 :: s57 :: s58 :: s59 :: s60 :: s61 :: s62 :: s63 :: s64 :: s65 :: s66 :: s67 :: s68 :: s69 :: s70 :: s71 :: s72 :: s73 :: s74 :: s75 :: s76 :: s77 :: s78 :: s79 :: s80 :: s81 :: s82 :: s83 :: s84 :: s85 :: s86 :: s87 :: s88 :: s89 :: s90 :: s91 :: s92 :: s93 :: s94 :: s95 :: s96 :: s97 :: s98 :: s99 :: s100 :: s101 :: s102 :: s103 :: s104 :: s105 :: s106 :: s107 :: s108 :: s109 :: s110 :: s111 :: s112 :: s113 :: s114 :: s115 :: s116 :: s117 :: s118 :: s119 :: s120 :: s121 :: s122 :: s123 :: s124 :: s125 :: s126 :: s127 :: s128 :: s129 :: []).toArray, []⟩ v5 := by
  conv => arg 2; arg 1; whnf
  have hK' : Hid _ := hK
  clear hK
  have hv3' : Hid (bt = v3.heap.size) := hv3
  clear hv3
  go_loopw [8, 10, 11, 12, 13] (fun c8 c10 c11 c12 c13 wr => ∃ (g' kk k3 : Nat) (up at' sum : Int) (t : TrL) (lv : Value), c8 = .int .i64 g' ∧ c10 = .int .i64 up ∧ c11 = .int .i64 at' ∧ c12 = .int .i64 sum ∧ c13 = .int .i64 k3 ∧ LegsI w0 b bt N kC g k0 y1 y2 y3 v3 g' kk k3 up at' sum t lv wr) (fun _ _ _ _ c13 _ => (intOf c13).toNat)
  case atStart => exact ⟨g, kC + 10, k0, y4, y1, y2, ⟨y1, y2, 0, 1 + y3, []⟩, _, rfl, rfl, rfl, rfl, rfl, hI⟩
  case round =>
    clear hI
    obtain ⟨g', kk, k3, up, at', sum, t, lv, rfl, rfl, rfl, rfl, rfl, hI⟩ := hrel
    have hTB := hI.tb
    obtain ⟨la, lc, rfl, _⟩ := OwnLegs.legs hTB.legs
    have hgl := hI.gl
    have hkl := hI.kl
    have hkk := hI.kk
    by_cases hk3 : 0 < k3 ∧ 0 < g'
    · have hk31 : (0 : Int) < (k3 : Int) := by omega
      have hk32 : (0 : Int) < (g' : Int) := by omega
      have hat := hI.at_
      have hup := hI.up
      have hsm := hI.sum
      have htl : t.legs.length ≤ 4 := by omega
      have hP6 := pick_any w0 b kk 30 wr (by omega) (by decide) hI.cur
      obtain ⟨i0, ii, iz0, iz1, iz2⟩ := info3 Tryz.infoLeg
      have hbtw : bt < wr.heap.size := ltCell hTB.c0
      have hcase : at' = 0 ∨ (at' ≠ 0 ∧ at' = (N : Int) - 1) ∨ (at' ≠ 0 ∧ at' ≠ (N : Int) - 1 ∧ up = 0) ∨ (at' ≠ 0 ∧ at' ≠ (N : Int) - 1 ∧ up = 1) := by omega
      rcases hcase with rfl | ⟨hn0, rfl⟩ | ⟨hn0, hn1, rfl⟩ | ⟨hn0, hn1, rfl⟩
      all_goals
        have hz1 : ¬ ((0 : Int) = (N : Int) - 1) := by omega
        go_wp2_with (first | (go_at_call 21; with_reducible refine hP6.mono ?_; rintro _ v6 ⟨y6, rfl, hy60, hy61, hD6, hE6⟩; have hP7 := pick_any w0 b (kk + 2) 6 v6 (by omega) (by decide) hD6) | (go_at_call 21; with_reducible refine hP7.mono ?_; rintro _ v7 ⟨y7, rfl, hy70, hy71, hD7, hE7⟩; have hTB7 := (hTB.mid hE6 (by omega) hbt).mid hE7 (by omega) hbt; have hsz7 : bt < v7.heap.size := ltCell hTB7.c0; have m4 := hTB7.c4; have m4' : ∀ o, (v7.alloc o).cell? ⟨bt, 4, none⟩ = some (.slice la t.legs.length lc) := fun o => cellLater (b1 v7 o) m4) | (at_builtin; refine wpList_append_own_at _ rfl _ _ 70 rfl (bt + 1) 74 i0 _ 3 24 Tryz.underlying70 ii iz0 iz1 iz2 rfl (by decide) _ _ _ rfl ((hTB7.later (b1 v7 _)).later (b1 _ _)).legs ⟨v7.heap.size + 1, 0, none⟩ 1 1 _ rfl (by rfl) (legs_lie v7 _ _ _ _) one3 (by unfold maxLen; omega) (by omega) (by simp only [World.size_alloc]; omega) ?_))
        intro v' W1 hown1 hgr1 _ hloc1
        obtain ⟨gn, cn, rfl⟩ := Joins.ownsRow_form hown1 (by omega)
        obtain ⟨m5, z5⟩ := ((hTB7.later (b1 v7 _)).later (b1 _ _)).grown4 hgr1
        clear hP6 hP7 m4 m4'
        go_wp2
        exact ⟨⟨g' - 1, kk + 2 + 2, k3 - 1, _, _, _, _, _, by congr 1; omega, rfl, rfl, rfl, by congr 1; omega, hI.step hv3'.out hbt hE6 hE7 hD7 hk3.2 hk3.1 (by omega) (by omega) (by omega) (by omega) hy60 hy61 hy70 hy71 hown1 hgr1 hloc1⟩, by simp only [intOf]; omega⟩
    · have hlen : 0 < t.legs.length := by omega
      have hcases : (¬ ((0 : Int) < (k3 : Int))) ∨ ((0 : Int) < (k3 : Int) ∧ ¬ ((0 : Int) < (g' : Int))) := by omega
      rcases hcases with hc1 | ⟨hc1, hc2⟩
      all_goals
        go_wp2
        apply hK'.out
        · exact hI
        · exact hlen
        · rfl
        · rfl
end Go.Proofs.YtelickcfodcmaaaGreatDoor


namespace Go.Proofs.YtelickcfodcmaaaGreatDoor
open Go.RowKit

theorem lie5 {W : World} {n : Nat} {x y z p q : Value} {t : TypeId} (hn : W.heap.size = n) : ∀ (j : Nat) (u : Value), [x, y, z, p, q][j]? = some u → (W.alloc (.cells #[x, y, z, p, q] t)).cell? ((⟨n, 0, none⟩ : Addr).add j) = some u := by
  subst hn
  exact cells5_lie
noncomputable def lineTrs : Code := ((Tryz.f19.body.bind (loopAtC 8)).getD .skip)
/-- a line in the making, its tracks done -/
structure TrsI (w0 : World) (b bl N k lg : Nat) (tr : List Int) (gp : Int) (vt : Value) (w : World) (g kC : Nat) (L : List TrV) (vT : Value) (W : World) : Prop where
  sum : (L.map fun x => x.1.legs.length).sum + g = lg
  len : L.length ≤ 5
  more : kC ≤ k + 30 + 20 * L.length + 10 * (L.map fun x => x.1.legs.length).sum
  dr : ∀ x ∈ L, DrawnT N x.1
  box : LBox (bl + 1) bl W tr gp L vt vT
  cur : Cur w0 b kC W
  mid : Mid b (b + 1) w W
  room : Room w.heap.size 3 W
theorem TrsI.step {w0 : World} {b bl N k lg : Nat} {tr : List Int} {gp : Int} {vt : Value} {w : World} {g kC : Nat} {L : List TrV} {vT : Value} {wr : World} {bt k0 : Nat} {y1 y2 y3 : Int} {v3 : World} {g' kk k3 : Nat} {up at' sum : Int} {t : TrL} {lv : Value} {W WD W1 : World} {d : Int} {v' : Value} {o : Obj}
    (hT : TrsI w0 b bl N k lg tr gp vt w g kC L vT wr) (hM3 : Mid b (b + 1) wr v3) (hI : LegsI w0 b bt N kC g k0 y1 y2 y3 v3 g' kk k3 up at' sum t lv W) (hv3 : bt = v3.heap.size) (hbl : b < bl) (hblw : w.heap.size < bl) (hbw : b < w.heap.size) (hN : 0 ≤ y1 ∧ y1 < N) (hy2 : 0 ≤ y2 ∧ y2 ≤ 40) (hy3 : 0 ≤ y3 ∧ y3 ≤ 3) (hL5 : L.length < 5) (hl0 : 0 < t.legs.length)
    (hMD : Mid b (b + 1) v3 WD) (hTD : TBox (bt + 1) bt WD { t with due := d } lv) (hCD : Cur w0 b (kk + 2 + 2) WD) (hd : 0 ≤ d ∧ d ≤ 1000)
    (ho : W1.ownsRow (bl + 1) 72 5 v' (L.length + 1) (trCells L ++ [.int .i64 t.frm, .int .i64 t.ready, .int .i64 d, .int .i64 t.weight, lv])) (hgr : (WD.alloc o).grownBy W1 vT.ownBlock) (hloc : v'.ownBlock = vT.ownBlock ∨ v'.ownBlock = some (WD.alloc o).heap.size) :
    TrsI w0 b bl N k lg tr gp vt w g' (kk + 2 + 2) (L ++ [({ t with due := d }, lv)]) v' (W1.setCell ⟨bl, 2, none⟩ v') := by
  have hLB3 := hT.box.mid hM3 hbl
  have hbl3 : bl < v3.heap.size := ltCell hLB3.c0
  have hMA : Mid b (b + 1) v3 (WD.alloc o) := hMD.trans (Mid.ofBelow (b1 WD o) (by have := hCD.lt; omega))
  have hLBA := hLB3.mid hMA hbl
  have hTA := hTD.later (b1 WD o)
  have hgl := hI.gl
  have hsum := hT.sum
  have hkC := hT.more
  have hkk := hI.kk
  have hsame := hI.same
  have hlen : ((L ++ [({ t with due := d }, lv)]).map fun x : TrV => x.1.legs.length).sum = (L.map fun x => x.1.legs.length).sum + t.legs.length := by simp
  have hlen2 : (L ++ [({ t with due := d }, lv)]).length = L.length + 1 := by simp
  have hrow : ∀ j, vT.ownBlock = some j → bl + 1 ≤ j := fun j hj => (hLB3.own.trs.lt (Or.inl hj)).1
  have hMw : Mid b (b + 1) w (WD.alloc o) := (hT.mid.trans hM3).trans hMA
  refine ⟨by rw [hlen]; omega, by rw [hlen2]; omega, by rw [hlen, hlen2]; omega, fun x hx => ?_, hLBA.snoc (t := { t with due := d }) (lv := lv) ho ?_ (fun j hj => ?_) hgr hloc, ?_, ?_, ?_⟩
  · rcases List.mem_append.1 hx with hx | hx
    · exact hT.dr x hx
    · rw [List.mem_singleton] at hx
      subst hx
      exact ⟨by show 0 ≤ t.frm ∧ t.frm < N; omega, by show 0 ≤ t.ready ∧ t.ready ≤ 40; omega, hd, by show 1 ≤ t.weight ∧ t.weight ≤ 4; omega, hl0, ⟨at', by show Walk N t.frm t.legs at'; rw [hsame.1]; exact hI.walk⟩⟩
  · exact Joins.ownsRow_le hTA.legs (by omega)
  · have hj1 := (World.ownsRow.lt hTA.legs j hj).1
    refine ⟨fun e => ?_, fun e => ?_, fun x hx e => ?_⟩
    · have := (hLB3.own.ints.lt j e).2; omega
    · have := (hLB3.own.trs.lt (Or.inl e)).2; omega
    · have := (hLB3.own.trs.lt (Or.inr ⟨x, hx, e⟩)).2; omega
  · exact ((hCD.later (b1 WD o)).grown hgr (fun j hj => by have := hrow j hj; omega)).set _ hbl _
  · exact (hMw.grown hgr (fun j hj => by have := hrow j hj; omega) (by omega)).setNew _ (by show w.heap.size ≤ bl; omega) (by omega) _
  · exact ((((hT.room.keep hM3).keep hMA)).grown hgr (fun j hj e => by have := hrow j hj; omega)).set _ _
set_option maxRecDepth 20000 in
set_option maxHeartbeats 8000000 in
theorem line_trains {s1 s2 s3 s4 s6 s9 s10 s11 s12 s13 s14 s15 s16 s17 s18 s19 s20 s21 s22 s23 s24 s25 s26 s27 s28 s29 s30 s31 s32 s33 s34 s35 s36 s37 s38 s39 s40 s41 s42 s43 s44 s45 s46 s47 s48 s49 s50 s51 s52 s53 s54 s55 s56 s57 s58 s59 s60 s61 s62 s63 s64 s65 s66 s67 s68 s69 s70 s71 s72 s73 s74 s75 s76 s77 s78 s79 s80 s81 s82 s83 s84 s85 s86 s87 s88 s89 s90 s91 s92 s93 s94 s95 s96 s97 s98 s99 s100 s101 s102 s103 s104 s105 s106 s107 s108 s109 s110 s111 s112 s113 s114 s115 s116 s117 s118 s119 s120 s121 s122 s123 s124 s125 s126 s127 s128 s129 : Value} (w0 : World) (b bl N k lg g0 kC0 : Nat) (tr : List Int) (gp : Int) (vt : Value) (w w3 : World) (K : Act → World → Prop) (Q : Exit → Act → World → Prop)
    (hK : ∀ (u9 u10 u11 u12 u13 u14 u44 u45 u46 u47 u48 u49 u50 u51 u52 u53 u54 u55 u56 u57 u58 u59 u60 u61 u62 u63 u64 u65 u66 u67 u68 u69 u70 u71 u72 u73 u74 u75 u76 u77 u78 u79 u80 u81 u82 u83 u84 u85 u86 u87 u88 u89 u90 u91 u92 u93 u94 u95 u96 u97 u98 u99 u100 u101 u102 u103 u104 u105 u106 u107 u108 u109 u110 u111 u112 u113 u114 u115 u116 u117 u118 u119 u120 u121 u122 u123 u124 u125 u126 u127 u128 c8 : Value) (g kC : Nat) (L : List TrV) (vT : Value) (W : World), TrsI w0 b bl N k lg tr gp vt w g kC L vT W → (0 < g → 5 ≤ L.length) → K ⟨(.pointer (some ⟨b, 0, none⟩) :: s1 :: s2 :: s3 :: s4 :: .pointer (some ⟨bl, 0, none⟩) :: s6 :: .int .i64 N :: c8 :: u9 :: u10 :: u11 :: u12 :: u13 :: u14 :: s15 :: s16 :: s17 :: s18 :: s19 :: s20 :: s21 :: s22 :: s23 :: s24 :: s25 :: s26 :: s27 :: s28 :: s29 :: s30 :: s31 :: s32 :: s33 :: s34 :: s35 :: s36 :: s37 :: s38 :: s39 :: s40 :: s41 :: s42 :: s43 :: u44 :: u45 :: u46 :: u47 :: u48 :: u49 :: u50 :: u51 :: u52 :: u53 :: u54 :: u55 :: u56 :: u57 :: u58 :: u59 :: u60 :: u61 :: u62 :: u63 :: u64 :: u65 :: u66 :: u67 :: u68 :: u69 :: u70 :: u71 :: u72 :: u73 :: u74 :: u75 :: u76 :: u77 :: u78 :: u79 :: u80 :: u81 :: u82 :: u83 :: u84 :: u85 :: u86 :: u87 :: u88 :: u89 :: u90 :: u91 :: u92 :: u93 :: u94 :: u95 :: u96 :: u97 :: u98 :: u99 :: u100 :: u101 :: u102 :: u103 :: u104 :: u105 :: u106 :: u107 :: u108 :: u109 :: u110 :: u111 :: u112 :: u113 :: u114 :: u115 :: u116 :: u117 :: u118 :: u119 :: u120 :: u121 :: u122 :: u123 :: u124 :: u125 :: u126 :: u127 :: u128 :: s129 :: []).toArray, []⟩ W)
    (hk : k ≤ 1000) (hN : 2 ≤ N ∧ N ≤ 5) (hlg : lg ≤ 9) (hbl : b < bl) (hblw : w.heap.size < bl) (hbw : b < w.heap.size)
    (hI : TrsI w0 b bl N k lg tr gp vt w g0 kC0 [] (.slice none 0 0) w3) :
    Code.wp Tryz.prog (Code.loop lineTrs) (Exit.inBlock 2 (Exit.then K Q)) ⟨(.pointer (some ⟨b, 0, none⟩) :: s1 :: s2 :: s3 :: s4 :: .pointer (some ⟨bl, 0, none⟩) :: s6 :: .int .i64 N :: .int .i64 g0 :: s9 :: s10 :: s11 :: s12 :: s13 :: s14 :: s15 :: s16 :: s17 :: s18 :: s19 :: s20 :: s21 :: s22 :: s23 :: s24 :: s25 :: s26 :: s27 :: s28 :: s29 :: s30 :: s31 :: s32 :: s33 :: s34 :: s35 :: s36 :: s37 :: s38 :: s39 :: s40 :: s41 :: s42 :: s43 :: s44 :: s45 :: s46 :: s47 :: s48 :: s49 :: s50 :: s51 :: s52 :: s53 :: s54 :: s55 :: s56 :: s57 :: s58 :: s59 :: s60 :: s61 :: s62 :: s63 :: s64 :: s65 :: s66 :: s67 :: s68 :: s69 :: s70 :: s71 :: s72 :: s73 :: s74 :: s75 :: s76 :: s77 :: s78 :: s79 :: s80 :: s81 :: s82 :: s83 :: s84 :: s85 :: s86 :: s87 :: s88 :: s89 :: s90 :: s91 :: s92 :: s93 :: s94 :: s95 :: s96 :: s97 :: s98 :: s99 :: s100 :: s101 :: s102 :: s103 :: s104 :: s105 :: s106 :: s107 :: s108 :: s109 :: s110 :: s111 :: s112 :: s113 :: s114 :: s115 :: s116 :: s117 :: s118 :: s119 :: s120 :: s121 :: s122 :: s123 :: s124 :: s125 :: s126 :: s127 :: s128 :: s129 :: []).toArray, []⟩ w3 := by
  conv => arg 2; arg 1; whnf
  have hK' : Hid _ := hK
  clear hK
  go_loopw [8] (fun c8 wr => ∃ (g kC : Nat) (L : List TrV) (vT : Value), c8 = .int .i64 g ∧ TrsI w0 b bl N k lg tr gp vt w g kC L vT wr) (fun c8 _ => (intOf c8).toNat)
  case atStart => exact ⟨g0, kC0, [], _, rfl, hI⟩
  case round =>
    clear hI
    obtain ⟨g, kC, L, vT, rfl, hT⟩ := hrel
    have hsum := hT.sum
    have hkC := hT.more
    have hL5 := hT.len
    obtain ⟨aT, cT, rfl, _⟩ := hT.box.own.trs.trains (fun x hx => by
      have h1 : x.1.legs.length ≤ (L.map fun x => x.1.legs.length).sum := le_sum (List.mem_map.2 ⟨x, hx, rfl⟩)
      unfold maxLen; omega)
    have q2 := hT.box.c2
    by_cases hg : 0 < g ∧ L.length < 5
    · have hg1 : (0 : Int) < (g : Int) := by omega
      have hg2 : (L.length : Int) < 5 := by omega
      have hP1 := pick_any w0 b kC N wr (by omega) (by omega) hT.cur
      go_wp2_with (first | (go_at_call 21; with_reducible refine hP1.mono ?_; rintro _ v1 ⟨y1, rfl, hy10, hy11, hD1, hE1⟩; have hP2 := pick_any w0 b (kC + 2) 40 v1 (by omega) (by decide) hD1) | (go_at_call 21; with_reducible refine hP2.mono ?_; rintro _ v2 ⟨y2, rfl, hy20, hy21, hD2, hE2⟩; have hP3 := pick_any w0 b (kC + 2 + 2) 4 v2 (by omega) (by decide) hD2) | (go_at_call 21; with_reducible refine hP3.mono ?_; rintro _ v3 ⟨y3, rfl, hy30, hy31, hD3, hE3⟩))
      have hM3 := (hE1.trans hE2).trans hE3
      have hA3 := b1 v3 (.cells #[.int .i64 y1, .int .i64 y2, .int .i64 0, .int .i64 (1 + y3), .slice none 0 0] 72)
      have hTB3 : TBox (v3.heap.size + 1) v3.heap.size (v3.alloc (.cells #[.int .i64 y1, .int .i64 y2, .int .i64 0, .int .i64 (1 + y3), .slice none 0 0] 72)) ⟨y1, y2, 0, 1 + y3, []⟩ (.slice none 0 0) := by
        refine ⟨?_, ?_, ?_, ?_, ?_, ?_, World.ownsRow_nil _ _ _ _, by simp [Value.ownBlock]⟩
        all_goals simp
      have hb3 : b < v3.heap.size := hD3.lt
      have hMA3 : Mid b (b + 1) v3 (v3.alloc (.cells #[.int .i64 y1, .int .i64 y2, .int .i64 0, .int .i64 (1 + y3), .slice none 0 0] 72)) := Mid.ofBelow hA3 (by omega)
      have hRm3 : Room v3.heap.size 5 (v3.alloc (.cells #[.int .i64 y1, .int .i64 y2, .int .i64 0, .int .i64 (1 + y3), .slice none 0 0] 72)) := Room.lit v3 _ _ 5 (by simp)
      refine (pick_any w0 b (kC + 2 + 2 + 2) 2 _ (by omega) (by decide) (hD3.later hA3)).mono ?_
      rintro _ v4 ⟨y4, rfl, hy40, hy41, hD4, hE4⟩
      have hTB4 := hTB3.mid hE4 (by omega) (by omega)
      have hRm4 := hRm3.keep hE4
      have t0 := hTB4.c0
      have t1 := hTB4.c1
      dsimp only at t0 t1
      have hP5 := pick_any w0 b (kC + 2 + 2 + 2 + 2) 4 v4 (by omega) (by decide) hD4
      obtain ⟨bt, hbt0⟩ : ∃ bt, bt = v3.heap.size := ⟨_, rfl⟩
      rw [← hbt0] at hTB4 hRm4 hb3 t0 t1 ⊢
      have hbt : Hid (bt = v3.heap.size) := hbt0
      have hMv4 := hMA3.trans hE4
      clear hbt0 hTB3 hP1 hP2 hP3 hD1 hD2 hD3 hE1 hE2 hE3 hA3 hMA3 hE4 hRm3 q2
      go_wp2_with (go_at_call 21; with_reducible refine hP5.mono ?_; rintro _ v5 ⟨y5, rfl, hy50, hy51, hD5, hE5⟩)
      have hTB5 := hTB4.mid hE5 (by omega) hb3
      have hRm5 := hRm4.keep hE5
      have hMv5 := hMv4.trans hE5
      obtain ⟨k0, hk0⟩ : ∃ k0 : Nat, 1 + y5 = (k0 : Int) := ⟨(1 + y5).toNat, by omega⟩
      have hk04 : 1 ≤ k0 ∧ k0 ≤ 4 := by omega
      have hy1N : 0 ≤ y1 ∧ y1 < N := by omega
      clear hP5 hTB4 hD4 hE5 hMv4 t0 t1
      rw [hk0]
      rename_i Kz az
      refine line_legs w0 b bt N kC g k0 y1 y2 y3 y4 v3 v5 Kz _ ?_ (by omega) hN (by omega) hk04 hb3 hbt.out ⟨hTB5, ⟨rfl, rfl, rfl⟩, by simp, by simp, Walk.nil, hy1N, by omega, by dsimp only [List.length_nil]; omega, hD5, by dsimp only [List.length_nil]; omega, hMv5, hRm5⟩
      intro u14 u70 u71 u72 u73 u74 u75 u76 u77 u78 u79 u80 u81 u82 u83 u84 u85 u86 u87 u88 u89 u90 u91 u92 u93 u94 u95 u96 u97 u98 u99 u100 u101 u102 u103 u104 u105 u106 u107 u108 u109 u110 c8 c10 c11 c12 c13 g' kk k3 up at' sum t lv W hI hlen e8 e12
      subst e8
      subst e12
      have hsm := hI.sum
      have hgl := hI.gl
      have hkl := hI.kl
      have hkk := hI.kk
      obtain ⟨la, lc, rfl, _⟩ := OwnLegs.legs hI.tb.legs
      have hLB3 := hT.box.mid hM3 hbl
      have hbl3 : bl < v3.heap.size := ltCell hLB3.c0
      obtain ⟨i0, ii, iz0, iz1, iz2⟩ := info3 Tryz.infoTrain
      have hP8 := pick_any w0 b kk 20 W (by omega) (by decide) hI.cur
      refine az _ _ ?_
      clear az hRm5 hMv5 hTB5 hD5
      go_wp2_with (go_at_call 21; with_reducible refine hP8.mono ?_; rintro _ v8 ⟨y8, rfl, hy80, hy81, hD8, hE8⟩)
      refine (pick_any w0 b (kk + 2) 8 v8 (by omega) (by decide) hD8).mono ?_
      rintro _ v9 ⟨y9, rfl, hy90, hy91, hD9, hE9⟩
      have hTB9 := (hI.tb.mid hE8 (by omega) hb3).mid hE9 (by omega) hb3
      have hMv9 := (hI.mid.trans hE8).trans hE9
      obtain ⟨_, _, z2⟩ := ((hI.room.keep hE8).keep hE9) 2 (by omega)
      have t2 := hTB9.c2
      have e2 := (hTB9.due (sum + y8 - y9)).c2
      have hv3b : v3.heap.size ≤ bt ∧ b ≤ v3.heap.size := by have := hbt.out; omega
      have hblt : bl + 1 ≤ v9.heap.size := by have := ltCell t2; dsimp only at this; omega
      by_cases hd : sum + y8 - y9 < 0
      · have hTD := (hTB9.due (sum + y8 - y9)).due 0
        have hMD := (hMv9.setNew ⟨bt, 2, none⟩ hv3b.1 hv3b.2 (.int .i64 (sum + y8 - y9))).setNew ⟨bt, 2, none⟩ hv3b.1 hv3b.2 (.int .i64 0)
        have hCD := (hD9.set ⟨bt, 2, none⟩ hb3 (.int .i64 (sum + y8 - y9))).set ⟨bt, 2, none⟩ hb3 (.int .i64 0)
        have hLD := hLB3.mid hMD hbl
        have f0 := hTD.c0
        have f1 := hTD.c1
        have f2 := hTD.c2
        have f3 := hTD.c3
        have f4 := hTD.c4
        have q2 := hLD.c2
        dsimp only at f0 f1 f2 f3 t2 e2
        go_wp2_with (at_builtin; refine wpList_append_own_at _ rfl _ _ 24 rfl (bl + 1) 72 i0 _ 5 56 Tryz.underlying24 ii iz0 iz1 iz2 rfl (by decide) _ _ _ rfl (hLD.later (b1 _ _)).own.trs.row ⟨v9.heap.size, 0, none⟩ 1 1 [.int .i64 t.frm, .int .i64 t.ready, .int .i64 0, .int .i64 t.weight, .slice la t.legs.length lc] rfl rfl (lie5 (by simp only [World.size_setCell])) (TrV_one (t := { t with due := 0 })) (by unfold maxLen; omega) (by omega) (by simp only [World.size_alloc, World.size_setCell]; omega) ?_)
        intro v' W1 hown1 hgr1 _ hloc1
        obtain ⟨gn, cn, rfl⟩ := Joins.ownsRow_form hown1 (by omega)
        obtain ⟨m2, z2'⟩ := (hLD.later (b1 _ _)).grown2 hgr1
        clear f0 f1 f2 f3 f4 q2 t2 e2 z2
        go_wp2
        go_roundw
        case rel => exact ⟨g', kk + 2 + 2, _, _, rfl, hT.step hM3 hI hbt.out hbl hblw hbw hy1N (by omega) (by omega) (by omega) hlen hMD hTD hCD ⟨Int.le_refl _, by decide⟩ hown1 hgr1 (by simpa using hloc1)⟩
        case measure => simp only [intOf]; omega
      · have hTD := hTB9.due (sum + y8 - y9)
        have hMD := hMv9.setNew ⟨bt, 2, none⟩ hv3b.1 hv3b.2 (.int .i64 (sum + y8 - y9))
        have hCD := hD9.set ⟨bt, 2, none⟩ hb3 (.int .i64 (sum + y8 - y9))
        have hLD := hLB3.mid hMD hbl
        have f0 := hTD.c0
        have f1 := hTD.c1
        have f2 := hTD.c2
        have f3 := hTD.c3
        have f4 := hTD.c4
        have q2 := hLD.c2
        dsimp only at f0 f1 f2 f3 t2 e2
        go_wp2_with (at_builtin; refine wpList_append_own_at _ rfl _ _ 24 rfl (bl + 1) 72 i0 _ 5 56 Tryz.underlying24 ii iz0 iz1 iz2 rfl (by decide) _ _ _ rfl (hLD.later (b1 _ _)).own.trs.row ⟨v9.heap.size, 0, none⟩ 1 1 [.int .i64 t.frm, .int .i64 t.ready, .int .i64 (sum + y8 - y9), .int .i64 t.weight, .slice la t.legs.length lc] rfl rfl (lie5 (by simp only [World.size_setCell])) (TrV_one (t := { t with due := (sum + y8 - y9) })) (by unfold maxLen; omega) (by omega) (by simp only [World.size_alloc, World.size_setCell]; omega) ?_)
        intro v' W1 hown1 hgr1 _ hloc1
        obtain ⟨gn, cn, rfl⟩ := Joins.ownsRow_form hown1 (by omega)
        obtain ⟨m2, z2'⟩ := (hLD.later (b1 _ _)).grown2 hgr1
        clear f0 f1 f2 f3 f4 q2 t2 e2 z2
        go_wp2
        go_roundw
        case rel => exact ⟨g', kk + 2 + 2, _, _, rfl, hT.step hM3 hI hbt.out hbl hblw hbw hy1N (by omega) (by omega) (by omega) hlen hMD hTD hCD (by omega) hown1 hgr1 (by simpa using hloc1)⟩
        case measure => simp only [intOf]; omega
    · have hcases : (¬ ((0 : Int) < (g : Int))) ∨ ((0 : Int) < (g : Int) ∧ ¬ ((L.length : Int) < 5)) := by omega
      rcases hcases with hg1 | ⟨hg1, hg2⟩
      all_goals
        go_wp2
        apply hK'.out
        · exact hT
        · intro _; omega
end Go.Proofs.YtelickcfodcmaaaGreatDoor

