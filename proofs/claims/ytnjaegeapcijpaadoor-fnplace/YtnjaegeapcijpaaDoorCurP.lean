/-
  A drawn line, as plain data: it is right.
-/
import Derived.Test.YtnjaegeapcijpaaDoorOwnT
namespace Go.Proofs.YtnjaegeapcijpaaDoor
open Go.RowKit

theorem le_sum {L : List Nat} {x : Nat} (h : x ∈ L) : x ≤ L.sum := by
  induction L with
  | nil => cases h
  | cons y L ih =>
    rw [List.sum_cons]
    rcases List.mem_cons.1 h with rfl | h
    · omega
    · have := ih h; omega
/-- legs, each to the next station, within the line -/
inductive Walk (n : Int) (frm : Int) : List LegD → Int → Prop
  | nil : Walk n frm [] frm
  | snoc {L : List LegD} {at_ : Int} {g : LegD} (h : Walk n frm L at_) (h1 : g.to = at_ + 1 ∨ g.to = at_ - 1) (h2 : 0 ≤ g.to) (h3 : g.to < n) (h4 : 1 ≤ g.run) (h5 : g.run ≤ 30) (h6 : 0 ≤ g.stay) (h7 : g.stay ≤ 5) : Walk n frm (L ++ [g]) g.to
/-- a drawn train -/
structure DrawnT (n : Nat) (t : TrL) : Prop where
  frm : 0 ≤ t.frm ∧ t.frm < n
  ready : 0 ≤ t.ready ∧ t.ready ≤ 40
  due : 0 ≤ t.due ∧ t.due ≤ 1000
  weight : 1 ≤ t.weight ∧ t.weight ≤ 4
  some_ : 0 < t.legs.length
  walk : ∃ at_, Walk n t.frm t.legs at_
structure DrawnL (l : LnL) : Prop where
  tr : 2 ≤ l.tracks.length ∧ l.tracks.length ≤ 5
  nums : ∀ z ∈ l.tracks, 1 ≤ z ∧ z ≤ 3
  gap : 0 ≤ l.gap ∧ l.gap ≤ 4
  trs : l.trains.length ≤ 5
  legs : (l.trains.map fun t => t.legs.length).sum ≤ 10
  each : ∀ t ∈ l.trains, DrawnT l.tracks.length t

def prevTo (frm : Int) (L : List LegD) (j : Nat) : Int := match j with
  | 0 => frm
  | j + 1 => (L.getD j ⟨0, 0, 0⟩).to
theorem Walk.legs {n frm : Int} {L : List LegD} {at_ : Int} (h : Walk n frm L at_) : at_ = prevTo frm L L.length ∧ ∀ j, j < L.length → 0 ≤ (L.getD j ⟨0, 0, 0⟩).to ∧ (L.getD j ⟨0, 0, 0⟩).to < n ∧ ((L.getD j ⟨0, 0, 0⟩).to = prevTo frm L j + 1 ∨ (L.getD j ⟨0, 0, 0⟩).to = prevTo frm L j - 1) ∧ 1 ≤ (L.getD j ⟨0, 0, 0⟩).run ∧ (L.getD j ⟨0, 0, 0⟩).run ≤ 30 ∧ 0 ≤ (L.getD j ⟨0, 0, 0⟩).stay ∧ (L.getD j ⟨0, 0, 0⟩).stay ≤ 5 := by
  induction h with
  | nil => exact ⟨rfl, fun j hj => by simp at hj⟩
  | @snoc L at_ g h h1 h2 h3 h4 h5 h6 h7 ih =>
    have hlast : (L ++ [g]).getD L.length ⟨0, 0, 0⟩ = g := by simp [List.getD_eq_getElem?_getD]
    have hold : ∀ j, j < L.length → (L ++ [g]).getD j ⟨0, 0, 0⟩ = L.getD j ⟨0, 0, 0⟩ := fun j hj => by simp [List.getD_eq_getElem?_getD, List.getElem?_append_left hj]
    have hprev : ∀ j, j ≤ L.length → prevTo frm (L ++ [g]) j = prevTo frm L j := fun j hj => by
      cases j with
      | zero => rfl
      | succ j => simp only [prevTo]; rw [hold j (by omega)]
    refine ⟨?_, fun j hj => ?_⟩
    · rw [List.length_append]; show g.to = ((L ++ [g]).getD L.length ⟨0, 0, 0⟩).to; rw [hlast]
    · rw [List.length_append] at hj
      simp only [List.length_cons, List.length_nil] at hj
      by_cases e : j = L.length
      · subst e
        rw [hlast, hprev _ (Nat.le_refl _), ← ih.1]
        exact ⟨h2, h3, h1, h4, h5, h6, h7⟩
      · rw [hold j (by omega), hprev j (by omega)]
        exact ih.2 j (by omega)
theorem cur_prev (t : TrL) (j : Nat) : cur (trD t) j = prevTo t.frm t.legs j := by
  cases j with
  | zero => rfl
  | succ j => rfl
theorem DrawnT.right {n : Nat} {t : TrL} (h : DrawnT n t) : trainB n (trD t) = true := by
  obtain ⟨at_, hw⟩ := h.walk
  have hl := hw.legs.2
  have h1 := h.frm
  have h2 := h.ready
  have h3 := h.due
  have h4 := h.weight
  have h5 := h.some_
  have hlegs : legsB n (trD t) = true := by
    unfold legsB
    rw [decide_eq_true_eq]
    intro j hj
    obtain ⟨a1, a2, a3, a4, a5, a6, a7⟩ := hl j hj
    rw [cur_prev, show (trD t).leg j = t.legs.getD j ⟨0, 0, 0⟩ from rfl]
    unfold legB nextTo inB
    show (decide _ && decide _ && decide _ && decide _) = true
    simp only [Bool.and_eq_true, decide_eq_true_eq]
    exact ⟨⟨⟨⟨a1, by omega⟩, a3⟩, a4, by omega⟩, a6, by omega⟩
  unfold trainB inB
  rw [hlegs]
  show (decide (0 ≤ t.frm ∧ t.frm ≤ (n : Int) - 1) && decide (0 ≤ t.ready ∧ t.ready ≤ 100000) && decide (0 ≤ t.due ∧ t.due ≤ 100000) && decide (1 ≤ t.weight ∧ t.weight ≤ 100) && decide (0 < t.legs.length) && true) = true
  simp only [Bool.and_eq_true, decide_eq_true_eq, and_true]
  omega
theorem legSum_take (ts : List TrL) : ∀ k, k ≤ ts.length → legSum (fT ts) k = ((ts.take k).map fun t => t.legs.length).sum
  | 0, _ => rfl
  | k + 1, hk => by
    rw [legSum, legSum_take ts k (by omega), List.take_succ_eq_append_getElem (by omega), List.map_append, List.sum_append]
    congr 1
    unfold fT
    rw [List.getD_eq_getElem?_getD, List.getElem?_eq_getElem (by omega)]
    simp [trD]
theorem DrawnL.right {l : LnL} (h : DrawnL l) : faultOf l.tracks.length (gI l.tracks) l.gap l.trains.length (fT l.trains) = (0, 0) := by
  have h1 := h.tr
  have h2 := h.gap
  have h3 := h.trs
  refine faultOf_zero ⟨?_, ?_, h3, ?_⟩ (fun j hj => ?_) (fun j hj => ?_)
  · unfold inB; rw [decide_eq_true_eq]; omega
  · unfold inB; rw [decide_eq_true_eq]; omega
  · rw [legSum_take _ _ (Nat.le_refl _), List.take_length]; exact h.legs
  · have := h.nums (gI l.tracks j) (by unfold gI; rw [List.getD_eq_getElem?_getD, List.getElem?_eq_getElem hj]; exact List.getElem_mem hj)
    unfold inB; rw [decide_eq_true_eq]; omega
  · have hf : fT l.trains j = trD l.trains[j] := by unfold fT; rw [List.getD_eq_getElem?_getD, List.getElem?_eq_getElem hj]; rfl
    rw [hf]
    exact (h.each _ (List.getElem_mem hj)).right
end Go.Proofs.YtnjaegeapcijpaaDoor
