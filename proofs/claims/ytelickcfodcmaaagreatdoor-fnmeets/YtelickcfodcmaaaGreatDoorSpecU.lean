/-
  The model's record and its rows, as they lie; one more leg in a row.
-/
import Derived.Test.YtelickcfodcmaaaGreatDoorSpecN
import Derived.Test.YtelickcfodcmaaaGreatDoorApp
import Derived.Maps.AppendAt
namespace Go.Proofs.YtelickcfodcmaaaGreatDoor
open Go.RowKit

def rowCells (r : RowD) : List Value := (List.range r.n).map fun m => .int .i64 (r.s m)
theorem rowCells_len (r : RowD) : (rowCells r).length = r.n := by simp [rowCells]
theorem rowCells_at (r : RowD) (m : Nat) (h : m < r.n) : (rowCells r)[m]? = some (.int .i64 (r.s m)) := by simp [rowCells, h]
/-- the model's record, its rows among the call's own blocks -/
structure LP (B0 : Nat) (W : World) (b gR : Nat) (a : Option Addr) (len cap : Nat) (gap : Int) (a' : Option Addr) (np cap' : Nat) (c : Option Addr) (nc : Nat) (v : Nat → Value) (P : Nat → RowD) (last : Int) : Prop where
  l2 : L2 W b a len cap gap a' np cap' c nc last
  z4 : W.frozen? ⟨b, 4, none⟩ = false
  row : ∀ j, j < np → c = some ⟨gR, 0, none⟩ ∧ W.cell? ⟨gR, j, none⟩ = some (v j) ∧ W.frozen? ⟨gR, j, none⟩ = false
  own : ∀ j, j < np → W.ownsRow B0 3 1 (v j) (P j).n (rowCells (P j))
  apart : ∀ j k, j < np → k < np → j ≠ k → Apart (v j) (v k)
  off : ∀ j, j < np → (v j).ownBlock ≠ some b ∧ (v j).ownBlock ≠ some gR
  ne : b ≠ gR
  lb : B0 ≤ b
  lg : B0 ≤ gR
theorem LP.rows {B0 : Nat} {W : World} {b gR : Nat} {a : Option Addr} {len cap : Nat} {gap : Int} {a' : Option Addr} {np cap' : Nat} {c : Option Addr} {nc : Nat} {v : Nat → Value} {P : Nat → RowD} {last : Int} (h : LP B0 W b gR a len cap gap a' np cap' c nc v P last) (hn : ∀ j, j < np → (P j).n ≤ 10) : IsRows 0 W.heap.size W c np P := fun j hj => by
  obtain ⟨e, hc, _⟩ := h.row j hj
  have ho := h.own j hj
  have hml : (P j).n ≤ maxLen := by have := hn j hj; unfold maxLen; omega
  rcases ho.2 with ⟨e0, h0⟩ | ⟨g, cp, cur, e0, hb, hg, _⟩
  · exact ⟨gR, 0, none, 0, e, Nat.zero_le _, ltCell hc, by rw [Nat.zero_add, hc, e0, h0], fun m hm => by omega, hml⟩
  · refine ⟨gR, 0, some ⟨g, 0, none⟩, cp, e, Nat.zero_le _, ltCell hc, by rw [Nat.zero_add, hc, e0], fun m hm => ?_, hml⟩
    rw [e0] at ho
    exact ⟨g, 0, rfl, Nat.zero_le _, (ho.lt g rfl).2, by rw [Nat.zero_add, ho.cellAt m (by omega)]; exact rowCells_at _ _ hm⟩
theorem LP.later {B0 : Nat} {W W' : World} {b gR : Nat} {a : Option Addr} {len cap : Nat} {gap : Int} {a' : Option Addr} {np cap' : Nat} {c : Option Addr} {nc : Nat} {v : Nat → Value} {P : Nat → RowD} {last : Int} (h : LP B0 W b gR a len cap gap a' np cap' c nc v P last) (hB : Below W.heap.size W W') : LP B0 W' b gR a len cap gap a' np cap' c nc v P last :=
  ⟨h.l2.later hB, (hB.frozen (ltCell h.l2.c4)).trans h.z4, fun j hj => ⟨(h.row j hj).1, cellLater hB (h.row j hj).2.1, (hB.frozen (ltCell (h.row j hj).2.1)).trans (h.row j hj).2.2⟩, fun j hj => ownsRow_later (h.own j hj) hB, h.apart, h.off, h.ne, h.lb, h.lg⟩

theorem rowCells_more (P : Nat → RowD) (i : Nat) (T : Int) : rowCells (moreP P i T i) = rowCells (P i) ++ [.int .i64 T] := by
  unfold rowCells moreP
  rw [if_pos rfl]
  simp only [List.range_succ, List.map_append, List.map_cons, List.map_nil, if_pos]
  congr 1
  apply List.map_congr_left
  intro m hm
  have := List.mem_range.1 hm
  rw [if_neg (by omega)]
theorem LP.put {B0 : Nat} {w A W1 : World} {b gR : Nat} {a : Option Addr} {len cap : Nat} {gap : Int} {a' : Option Addr} {np cap' : Nat} {c : Option Addr} {nc : Nat} {v : Nat → Value} {P : Nat → RowD} {last : Int} (h : LP B0 w b gR a len cap gap a' np cap' c nc v P last) (hA : Below w.heap.size w A) {i : Nat} (hi : i < np) {v' : Value} {T : Int}
    (hown1 : W1.ownsRow B0 3 1 v' ((P i).n + 1) (rowCells (P i) ++ [.int .i64 T])) (hgr : A.grownBy W1 (v i).ownBlock) (hloc : v'.ownBlock = (v i).ownBlock ∨ v'.ownBlock = some A.heap.size) :
    LP B0 ((W1.setCell ⟨gR, i, none⟩ v').setCell ⟨b, 4, none⟩ (.int .i64 T)) b gR a len cap gap a' np cap' c nc (fun j => if j = i then v' else v j) (moreP P i T) T ∧ Below B0 w ((W1.setCell ⟨gR, i, none⟩ v').setCell ⟨b, 4, none⟩ (.int .i64 T)) := by
  have hL := h.later hA
  have lb : b < A.heap.size := ltCell hL.l2.c0
  have lg : gR < A.heap.size := ltCell (hL.row i hi).2.1
  have hsm : ∀ k, k < A.heap.size → some k ≠ (v i).ownBlock → W1.heap[k]? = A.heap[k]? := fun k hk hn => hgr.block k hk hn
  have hbk := hsm b lb (fun e => (hL.off i hi).1 e.symm)
  have hgk := hsm gR lg (fun e => (hL.off i hi).2 e.symm)
  have cb : ∀ o u, A.cell? ⟨b, o, none⟩ = some u → W1.cell? ⟨b, o, none⟩ = some u := fun o u hu => (World.cell?_of_block (w := A) (w' := W1) (a := ⟨b, o, none⟩) hbk).trans hu
  have cg : ∀ o u, A.cell? ⟨gR, o, none⟩ = some u → W1.cell? ⟨gR, o, none⟩ = some u := fun o u hu => (World.cell?_of_block (w := A) (w' := W1) (a := ⟨gR, o, none⟩) hgk).trans hu
  have sb : ∀ o u, W1.cell? ⟨b, o, none⟩ = some u → (W1.setCell ⟨gR, i, none⟩ v').cell? ⟨b, o, none⟩ = some u := fun o u hu => (World.cell?_setCell_other _ _ _ _ (by intro e; cases e; exact hL.ne rfl)).trans hu
  have tb : ∀ o u, o ≠ 4 → W1.cell? ⟨b, o, none⟩ = some u → ((W1.setCell ⟨gR, i, none⟩ v').setCell ⟨b, 4, none⟩ (.int .i64 T)).cell? ⟨b, o, none⟩ = some u := fun o u ho hu => (cell_set_ne (fun e => ho e.symm)).trans (sb o u hu)
  have hvb : ∀ k, v'.ownBlock = some k → k ≠ b ∧ k ≠ gR := fun k hk => by
    rcases hloc with e | e
    · rw [e] at hk; exact ⟨fun e' => (hL.off i hi).1 (hk.trans (by rw [e'])), fun e' => (hL.off i hi).2 (hk.trans (by rw [e']))⟩
    · rw [e] at hk; cases hk; exact ⟨by omega, by omega⟩
  have hkeep : ∀ k, k ≠ b → k ≠ gR → ((W1.setCell ⟨gR, i, none⟩ v').setCell ⟨b, 4, none⟩ (.int .i64 T)).heap[k]? = W1.heap[k]? := fun k h1 h2 => (Below.heap_setCell _ ⟨b, 4, none⟩ _ k h1).trans (Below.heap_setCell _ ⟨gR, i, none⟩ _ k h2)
  have lo := hL.lb
  have lo' := hL.lg
  refine ⟨⟨⟨tb 0 _ (by decide) (cb 0 _ hL.l2.c0), tb 1 _ (by decide) (cb 1 _ hL.l2.c1), tb 2 _ (by decide) (cb 2 _ hL.l2.c2), tb 3 _ (by decide) (cb 3 _ hL.l2.c3), World.cell?_setCell_same _ _ _ (sb 4 _ (cb 4 _ hL.l2.c4))⟩, ?_, fun j hj => ?_, fun j hj => ?_, fun j k hj hk hjk => ?_, fun j hj => ?_, hL.ne, hL.lb, hL.lg⟩, ?_⟩
  · rw [World.frozen?_setCell, World.frozen?_setCell, World.frozen?_of_block (w := A) (w' := W1) (a := ⟨b, 4, none⟩) hbk]
    exact hL.z4
  · obtain ⟨e, hc, hf⟩ := hL.row j hj
    refine ⟨e, ?_, ?_⟩
    · rw [World.cell?_setCell_other _ _ _ _ (by intro e; cases e; exact hL.ne rfl)]
      by_cases e2 : j = i
      · subst e2
        rw [World.cell?_setCell_same _ _ _ (cg j _ hc), if_pos rfl]
      · rw [cell_set_ne (fun e => e2 e.symm), cg j _ hc, if_neg e2]
    · rw [World.frozen?_setCell, World.frozen?_setCell, World.frozen?_of_block (w := A) (w' := W1) (a := ⟨gR, j, none⟩) hgk]
      exact hf
  · by_cases e2 : j = i
    · subst e2
      rw [if_pos rfl, rowCells_more, show (moreP P j T j).n = (P j).n + 1 by simp [moreP]]
      exact ownsRow_same hown1 (fun k hk => hkeep k (hvb k hk).1 (hvb k hk).2)
    · rw [if_neg e2, show moreP P i T j = P j by simp [moreP, e2]]
      refine ownsRow_same (hL.own j hj) (fun k hk => ?_)
      have h1 := hL.off j hj
      refine (hkeep k (fun e => h1.1 (by rw [hk, e])) (fun e => h1.2 (by rw [hk, e]))).trans (hsm k ((hL.own j hj).lt k hk).2 ?_)
      rcases hL.apart j i hj hi e2 with h3 | h3
      · rw [hk] at h3; cases h3
      · rw [← hk]; exact h3
  · have hvn : ∀ m, m < np → m ≠ i → Apart v' (v m) ∧ Apart (v m) v' := fun m hm hmi => by
      rcases hloc with e | e
      · have h1 := hL.apart i m hi hm (fun h => hmi h.symm)
        have h2 := hL.apart m i hm hi hmi
        refine ⟨?_, ?_⟩
        · rcases h1 with h1 | h1
          · exact Or.inl (e.trans h1)
          · exact Or.inr (by rw [e]; exact h1)
        · rcases h2 with h2 | h2
          · exact Or.inl h2
          · exact Or.inr (by rw [e]; exact h2)
      · refine ⟨Or.inr ?_, ?_⟩
        · rw [e]; intro h1; have := ((hL.own m hm).lt _ h1.symm).2; omega
        · cases hm2 : (v m).ownBlock with
          | none => exact Or.inl hm2
          | some k => exact Or.inr (by rw [hm2, e]; intro h1; cases h1; have := ((hL.own m hm).lt _ hm2).2; omega)
    by_cases e2 : j = i
    · subst e2
      rw [if_pos rfl, if_neg (fun e => hjk e.symm)]
      exact (hvn k hk (fun e => hjk e.symm)).1
    · rw [if_neg e2]
      by_cases e3 : k = i
      · subst e3
        rw [if_pos rfl]
        exact (hvn j hj hjk).2
      · rw [if_neg e3]; exact hL.apart j k hj hk hjk
  · by_cases e2 : j = i
    · subst e2
      rw [if_pos rfl]
      exact ⟨fun e => (hvb b e).1 rfl, fun e => (hvb gR e).2 rfl⟩
    · rw [if_neg e2]; exact hL.off j hj
  · have hbA : B0 ≤ w.heap.size := by have := ltCell h.l2.c0; have := h.lb; dsimp only at *; omega
    refine (((hA.mono hbA).grown hgr (by have := hA.size; omega) (fun k hk => ((hL.own i hi).lt k hk).1)).setCell (p := ⟨gR, i, none⟩) lo' _).setCell (p := ⟨b, 4, none⟩) lo _
end Go.Proofs.YtelickcfodcmaaaGreatDoor
