/-
  The plan of an order, step by step, as plain data.
  The model's record of what is placed, made anew.
  A plan of the call's own: its rows, no two in one block.
  The plan of an order: what a Place answers, and how that lies.
-/
import Derived.Test.YthnlkpifafklkaaGreatDoorPlainQ
import Derived.Test.YthnlkpifafklkaaGreatDoorPlainH
import Derived.Test.YthnlkpifafklkaaGreatDoorSpecU
import Derived.Test.YthnlkpifafklkaaGreatDoorTo
namespace Go.Proofs.YthnlkpifafklkaaGreatDoor
open Go.RowKit

theorem leave_bd {len np : Nat} {f : Nat → TrainD} {P : Nat → RowD} {last : Int} (hR : RightL len np f) (hQ : PartP np f P last) {j k : Nat} (hj : j < np) (hk : k < (P j).n) {e : Int} (he : leaveO f P j k = some e) : 0 ≤ e ∧ e ≤ last + 10000 := by
  have hn := hQ.le j hj
  have h1 := hQ.at0 j hj k hk
  obtain ⟨r0, r1, _⟩ := (hR.train j hj).leg k (by omega)
  unfold leaveO at he
  split at he
  · have := hQ.at0 j hj (k + 1) (by omega); simp only [Option.some.injEq] at he; omega
  · split at he
    · cases he
    · simp only [Option.some.injEq] at he; omega
theorem first_bd {len np : Nat} {g : Nat → Int} {f : Nat → TrainD} {P : Nat → RowD} {last s low t : Int} (hR : RightL len np f) (hQ : PartP np f P last) (h : IsFirst np g f P s low t) (hl : low ≤ last + 20000 ∨ low ≤ 110000) : t ≤ last + 20001 ∨ t ≤ 110000 := by
  rcases Int.lt_or_le low t with h1 | h1
  · left
    rcases Int.lt_or_le (last + 10001) t with h2 | h2
    · exfalso
      have hf := h.2.2 (t - 1) (by omega) (by omega)
      refine h.2.1 ?_
      unfold fullAt at *
      rw [thereAll_same (t := t - 1) (t' := t) (by omega) np (fun j hj k hk _ e he h3 => by have := leave_bd hR hQ hj hk he; omega)]
      exact hf
    · omega
  · have := h.1
    rcases hl with h2 | h2
    · left; omega
    · right; omega
theorem ready_bd {len np : Nat} {f : Nat → TrainD} {P : Nat → RowD} {last : Int} (hR : RightL len np f) (hQ : PartP np f P last) {i : Nat} (hi : i < np) (hk : (P i).n < (f i).nl) : 0 ≤ readyOf f P i (P i).n ∧ (readyOf f P i (P i).n ≤ last + 20000 ∨ readyOf f P i (P i).n ≤ 110000) := by
  have hRi := hR.train i hi
  have hr0 := hRi.r0
  have hr1 := hRi.r1
  have hl0 := hQ.l0
  cases hn : (P i).n with
  | zero => obtain ⟨_, _, l2, l3⟩ := hRi.leg 0 (by omega); simp only [readyOf]; omega
  | succ k =>
    have h1 := hQ.at0 i hi k (by omega)
    obtain ⟨r0, r1, _, _⟩ := hRi.leg k (by omega)
    obtain ⟨_, _, l2, l3⟩ := hRi.leg (k + 1) (by omega)
    simp only [readyOf]; omega
theorem low_bd {len np : Nat} {g : Nat → Int} {gap : Int} {f : Nat → TrainD} {P : Nat → RowD} {last : Int} (hR : RightL len np f) (hG : RightG len g gap np f) (hQ : PartP np f P last) {i : Nat} (hi : i < np) (hk : (P i).n < (f i).nl) : last ≤ lowOf np f P gap last i ∧ (lowOf np f P gap last i ≤ last + 20000 ∨ lowOf np f P gap last i ≤ 110000) := by
  have hrd := ready_bd hR hQ hi hk
  have g0 := hG.g0
  have g1 := hG.g1
  have hl0 := hQ.l0
  have hm : last ≤ maxZ (readyOf f P i (P i).n) last ∧ (maxZ (readyOf f P i (P i).n) last ≤ last + 20000 ∨ maxZ (readyOf f P i (P i).n) last ≤ 110000) := by unfold maxZ; split <;> omega
  have hB : ∀ B, maxZ (readyOf f P i (P i).n) last ≤ B → last + 20000 ≤ B → last ≤ lowOf np f P gap last i ∧ lowOf np f P gap last i ≤ B := fun B h1 h2 => by
    have := trackAll_bd (f := f) (P := P) (gap := gap) (i := i) (k := (P i).n) h1 (n := np) (fun j hj m hmm => by
      have h3 := hQ.at0 j hj m hmm
      obtain ⟨r0, r1, _⟩ := (hR.train j hj).leg m (by have := hQ.le j hj; omega)
      omega) np (Nat.le_refl _)
    unfold lowOf
    exact ⟨by omega, this.2⟩
  rcases Int.lt_or_le (last + 20000) 110000 with h | h
  · have := hB 110000 (by omega) (by omega); exact ⟨this.1, Or.inr this.2⟩
  · have := hB (last + 20000) (by omega) (by omega); exact ⟨this.1, Or.inl this.2⟩
theorem PartP.more {len np : Nat} {g : Nat → Int} {gap : Int} {f : Nat → TrainD} {P : Nat → RowD} {last t : Int} (hR : RightL len np f) (hG : RightG len g gap np f) (hQ : PartP np f P last) {i : Nat} (hi : i < np) (hk : (P i).n < (f i).nl) (h : IsFirst np g f P (stOf f P i) (lowOf np f P gap last i) t) {k : Nat} (hk10 : k < 10) (hl : last ≤ 110000 + 20001 * k) :
    PartP np f (moreP P i t) t ∧ t ≤ 110000 + 20001 * ((k + 1 : Nat) : Int) := by
  have h1 := low_bd hR hG hQ hi hk
  have h2 := first_bd hR hQ h h1.2
  have h3 := h.1
  have hl0 := hQ.l0
  have hb : t ≤ 110000 + 20001 * ((k + 1 : Nat) : Int) := by omega
  refine ⟨⟨fun j hj => ?_, fun j hj m hm => ?_, by omega, by omega⟩, hb⟩
  · by_cases e : j = i
    · subst e; simp only [moreP, if_pos]; omega
    · simp only [moreP, if_neg e]; exact hQ.le j hj
  · by_cases e : j = i
    · subst e
      simp only [moreP, if_pos] at hm ⊢
      by_cases e2 : m = (P j).n
      · rw [if_pos e2]; omega
      · rw [if_neg e2]; have := hQ.at0 j hj m (by omega); omega
    · simp only [moreP, if_neg e] at hm ⊢
      have := hQ.at0 j hj m hm; omega

structure StP where
  code : Int
  at_ : Nat
  P : Nat → RowD
  last : Int
noncomputable def stepP (np : Nat) (g : Nat → Int) (f : Nat → TrainD) (gap : Int) (o : Int) (k : Nat) (st : StP) : StP :=
  if st.code ≠ 0 then st else if inB o 0 ((np : Int) - 1) = true then
    (if (nextOf np g f st.P gap st.last o.toNat).1 = 0 then ⟨0, 0, moreP st.P o.toNat (nextOf np g f st.P gap st.last o.toNat).2, (nextOf np g f st.P gap st.last o.toNat).2⟩ else ⟨(nextOf np g f st.P gap st.last o.toNat).1, k, st.P, st.last⟩)
  else ⟨2, k, st.P, st.last⟩
noncomputable def runP (np : Nat) (g : Nat → Int) (f : Nat → TrainD) (gap : Int) (o : Nat → Int) : Nat → StP
  | 0 => ⟨0, 0, fun _ => ⟨0, fun _ => 0⟩, 0⟩
  | k + 1 => stepP np g f gap (o k) k (runP np g f gap o k)
/-- how many legs of each are placed, in all -/
def rowSumQ (P : Nat → RowD) : Nat → Nat
  | 0 => 0
  | i + 1 => rowSumQ P i + (P i).n
theorem rowSumQ_more {P : Nat → RowD} {i : Nat} {t : Int} : ∀ n, rowSumQ (moreP P i t) n = rowSumQ P n + (if i < n then 1 else 0)
  | 0 => rfl
  | n + 1 => by
    simp only [rowSumQ, rowSumQ_more n]
    by_cases e : n = i
    · subst e; simp [moreP]; omega
    · have h : (moreP P i t n).n = (P n).n := by simp [moreP, e]
      rw [h]
      by_cases h2 : i < n
      · rw [if_pos h2, if_pos (by omega)]; omega
      · rw [if_neg h2, if_neg (by omega)]; omega
/-- a run that has come so far without a code -/
structure RunOk (len np : Nat) (g : Nat → Int) (f : Nat → TrainD) (gap : Int) (st : StP) (k : Nat) : Prop where
  part : PartP np f st.P st.last
  lb : st.last ≤ 110000 + 20001 * (k : Int)
  sum : rowSumQ st.P np = k
theorem runP_zero (np : Nat) (g : Nat → Int) (f : Nat → TrainD) (gap : Int) (o : Nat → Int) (len : Nat) : RunOk len np g f gap (runP np g f gap o 0) 0 := by
  refine ⟨⟨fun j _ => Nat.zero_le _, fun j _ m hm => ?_, by show (0 : Int) ≤ 0; omega, by show (0 : Int) ≤ 600000; omega⟩, by show (0 : Int) ≤ _; omega, ?_⟩
  · exact absurd hm (Nat.not_lt_zero _)
  · show rowSumQ (fun _ => ⟨0, fun _ => 0⟩) np = 0
    induction np with
    | zero => rfl
    | succ n ih => simp only [rowSumQ, ih]
theorem runOk_step {len np : Nat} {g : Nat → Int} {gap : Int} {f : Nat → TrainD} (hR : RightL len np f) (hG : RightG len g gap np f) {st : StP} {k : Nat} (h : RunOk len np g f gap st k) (hc : st.code = 0) {i : Nat} (hi : i < np) {t : Int} (hk : (st.P i).n < (f i).nl) (hf : IsFirst np g f st.P (stOf f st.P i) (lowOf np f st.P gap st.last i) t) (hk10 : k < 10) :
    stepP np g f gap (i : Int) k st = ⟨0, 0, moreP st.P i t, t⟩ ∧ RunOk len np g f gap ⟨0, 0, moreP st.P i t, t⟩ (k + 1) := by
  have hn := nextOf_ok (np := np) (g := g) (gap := gap) (last := st.last) (by omega) hf
  have hp := h.part.more hR hG hi hk hf hk10 h.lb
  refine ⟨?_, hp.1, hp.2, ?_⟩
  · unfold stepP
    rw [if_neg (by simp [hc]), if_pos (by unfold inB; simp; omega), Int.toNat_natCast, hn, if_pos rfl]
  · show rowSumQ (moreP st.P i t) np = k + 1
    rw [rowSumQ_more, if_pos hi, h.sum]
end Go.Proofs.YthnlkpifafklkaaGreatDoor

namespace Go.Proofs.YthnlkpifafklkaaGreatDoor
open Go.RowKit

structure NewP (w wr : World) (b : Nat) (a : Option Addr) (len cap : Nat) (gap : Int) (a' : Option Addr) (np cap' : Nat) (j : Nat) (vS : Value) : Prop where
  c0 : wr.cell? ⟨b, 0, none⟩ = some (.slice a len cap)
  c1 : wr.cell? ⟨b, 1, none⟩ = some (.int .i64 gap)
  c2 : wr.cell? ⟨b, 2, none⟩ = some (.slice a' np cap')
  c3 : wr.cell? ⟨b, 3, none⟩ = some vS
  c4 : wr.cell? ⟨b, 4, none⟩ = some (.int .i64 0)
  z3 : wr.frozen? ⟨b, 3, none⟩ = false
  z4 : wr.frozen? ⟨b, 4, none⟩ = false
  own : wr.ownsRow (b + 1) 22 1 vS j (List.replicate j (.slice none 0 0))
  below : Below w.heap.size w wr
theorem NewP.step {w wr w' : World} {b : Nat} {a : Option Addr} {len cap : Nat} {gap : Int} {a' : Option Addr} {np cap' : Nat} {j : Nat} {vS v' : Value} (h : NewP w wr b a len cap gap a' np cap' j vS) (hb : w.heap.size ≤ b)
    (ho : w'.ownsRow (b + 1) 22 1 v' (j + 1) (List.replicate j (.slice none 0 0) ++ [.slice none 0 0])) (hg : (wr.alloc (.cells #[.slice none 0 0] 22)).grownBy w' vS.ownBlock) :
    NewP w (w'.setCell ⟨b, 3, none⟩ v') b a len cap gap a' np cap' (j + 1) v' ∧ w'.cell? ⟨b, 3, none⟩ = some vS ∧ w'.frozen? ⟨b, 3, none⟩ = false := by
  have hB := b1 wr (.cells #[.slice none 0 0] 22)
  have lb : b < wr.heap.size := ltCell h.c0
  have hk : w'.heap[b]? = (wr.alloc (.cells #[.slice none 0 0] 22)).heap[b]? := hg.block b (by have := hB.size; omega) (fun e => by have := (h.own.lt b e.symm).1; omega)
  have cc : ∀ o u, wr.cell? ⟨b, o, none⟩ = some u → w'.cell? ⟨b, o, none⟩ = some u := fun o u hu => (World.cell?_of_block (w := wr.alloc (.cells #[.slice none 0 0] 22)) (w' := w') (a := ⟨b, o, none⟩) hk).trans (cellLater hB hu)
  have zz : ∀ o u, wr.cell? ⟨b, o, none⟩ = some u → wr.frozen? ⟨b, o, none⟩ = false → w'.frozen? ⟨b, o, none⟩ = false := fun o u hu hz => (World.frozen?_of_block (w := wr.alloc (.cells #[.slice none 0 0] 22)) (w' := w') (a := ⟨b, o, none⟩) hk).trans ((hB.frozen (ltCell hu)).trans hz)
  refine ⟨⟨(cell_set_ne (by decide)).trans (cc 0 _ h.c0), (cell_set_ne (by decide)).trans (cc 1 _ h.c1), (cell_set_ne (by decide)).trans (cc 2 _ h.c2), World.cell?_setCell_same _ _ _ (cc 3 _ h.c3), (cell_set_ne (by decide)).trans (cc 4 _ h.c4), by rw [World.frozen?_setCell]; exact zz 3 _ h.c3 h.z3, by rw [World.frozen?_setCell]; exact zz 4 _ h.c4 h.z4, ?_, ?_⟩, cc 3 _ h.c3, zz 3 _ h.c3 h.z3⟩
  · rw [List.replicate_succ']
    exact ownsRow_setCell_below ho (Nat.lt_succ_self _) _
  · exact ((Below.join h.below (Nat.le_refl _) hB).grown hg (by have := h.below.size; have := hB.size; omega) (fun k hk2 => by have := (h.own.lt k hk2).1; omega)).setCell (p := ⟨b, 3, none⟩) hb _

set_option maxRecDepth 20000 in
set_option maxHeartbeats 4000000 in
theorem l2new_any (a : Option Addr) (len cap : Nat) (gap : Int) (a' : Option Addr) (np cap' : Nat) (w : World) (hn : np ≤ 5) :
    Calls Tryz.prog 31 #[.agg #[.slice a len cap, .int .i64 gap, .slice a' np cap']] w fun e w' => (∃ gR c nc, e = .returned (.pointer (some ⟨w.heap.size + 1, 0, none⟩)) ∧ LP w.heap.size w' (w.heap.size + 1) gR a len cap gap a' np cap' c nc (fun _ => .slice none 0 0) (fun _ => ⟨0, fun _ => 0⟩) 0) ∧ Below w.heap.size w w' := by
  obtain ⟨i0, hi, hz0, hz1, hz2⟩ := info_parts Tryz.infoRow
  obtain ⟨y0, y1, y2⟩ := new3 w (.slice a len cap) (.int .i64 gap) (.slice a' np cap') 35
  go_enter Tryz.func31, Tryz.ntmps31
  go_wp2
  have hN := b2 w (.cells #[.slice a len cap, .int .i64 gap, .slice a' np cap'] 35) (.cells #[.slice a len cap, .int .i64 gap, .slice a' np cap', .slice none 0 0, .int .i64 0] 65)
  have hTb := Go.heap_alloc_new (w.alloc (.cells #[.slice a len cap, .int .i64 gap, .slice a' np cap'] 35)) (.cells #[.slice a len cap, .int .i64 gap, .slice a' np cap', .slice none 0 0, .int .i64 0] 65)
  rw [World.size_alloc] at hTb
  refine nameW fun V hV => ?_
  rw [← hV] at hTb hN
  have e0 := cell_of_row V (w.heap.size + 1) 0 _ _ _ hTb
  have e1 := cell_of_row V (w.heap.size + 1) 1 _ _ _ hTb
  have e2 := cell_of_row V (w.heap.size + 1) 2 _ _ _ hTb
  have e3 := cell_of_row V (w.heap.size + 1) 3 _ _ _ hTb
  have e4 := cell_of_row V (w.heap.size + 1) 4 _ _ _ hTb
  simp at e0 e1 e2 e3 e4
  have z3 : V.frozen? ⟨w.heap.size + 1, 3, none⟩ = false := by rw [hV]; rw [World.frozen?_alloc_at _ _ _ _ (by simp)]
  have z4 : V.frozen? ⟨w.heap.size + 1, 4, none⟩ = false := by rw [hV]; rw [World.frozen?_alloc_at _ _ _ _ (by simp)]
  clear hV hTb y0 y1 y2
  go_loopw [10] (fun jj wr => ∃ (j : Nat) (vS : Value), j ≤ np ∧ jj = .int .i64 j ∧ NewP w wr (w.heap.size + 1) a len cap gap a' np cap' j vS) (fun jj _ => np - (intOf jj).toNat)
  case atStart => exact ⟨0, .slice none 0 0, Nat.zero_le _, rfl, e0, e1, e2, e3, e4, z3, z4, World.ownsRow_nil _ _ _ _, hN⟩
  case round =>
    obtain ⟨j, vS, hj, rfl, hP⟩ := hrel
    by_cases hlt : j < np
    · have hj' : (j : Int) < (np : Int) := by omega
      have c3 := hP.c3
      have lb := ltCell c3
      dsimp only at lb
      go_wp2_with (at_builtin; refine wpList_append_own _ rfl _ _ 27 rfl (w.heap.size + 1 + 1) 22 i0 _ 1 24 Tryz.underlying27 hi hz0 hz1 hz2 rfl (by decide) _ _ _ rfl (hP.own.alloc _) ⟨wr.heap.size, 0, none⟩ 1 1 [.slice none 0 0] rfl rfl cells1_lie (fun u hu => by simp at hu; subst hu; rfl) (by unfold maxLen; omega) (by omega) (by simp only [World.size_alloc]; omega) ?_)
      intro v' w6 hown' hgrow _
      obtain ⟨hP2, m3, mz⟩ := hP.step (by omega) hown' hgrow
      have hform := Joins.ownsRow_form hown' (by omega)
      obtain ⟨gn, cn, rfl⟩ := hform
      have hP2' : Hid _ := hP2
      clear hP2 hown' hgrow c3
      go_wp2
      go_roundw
      case rel => exact ⟨j + 1, _, by omega, by go_num, hP2'.out⟩
      case measure => simp [intOf]; omega
    · obtain rfl : j = np := by omega
      go_wp2
      go_ret
      refine ⟨?_, hP.below⟩
      have hb : w.heap.size ≤ w.heap.size + 1 := by omega
      rcases hP.own.2 with ⟨e, h0⟩ | ⟨gR, cp, cur, e, hgb, hgg, _⟩
      · subst h0
        exact ⟨w.heap.size, none, 0, rfl, ⟨hP.c0, hP.c1, hP.c2, by rw [hP.c3, e], hP.c4⟩, hP.z4, fun k hk => by omega, fun k hk => by omega, fun k _ hk => by omega, fun k hk => by omega, by omega, hb, Nat.le_refl _⟩
      · have ho := hP.own
        rw [e] at ho
        refine ⟨gR, some ⟨gR, 0, none⟩, cp, rfl, ⟨hP.c0, hP.c1, hP.c2, by rw [hP.c3, e], hP.c4⟩, hP.z4, fun k hk => ⟨rfl, ?_, ho.frozenAt k⟩, fun k hk => World.ownsRow_nil _ _ _ _, fun k m _ _ _ => Or.inl rfl, fun k hk => ⟨by simp [Value.ownBlock], by simp [Value.ownBlock]⟩, by omega, hb, by omega⟩
        rw [ho.cellAt k (by omega), List.getElem?_replicate, if_pos hk]
end Go.Proofs.YthnlkpifafklkaaGreatDoor

namespace Go.Proofs.YthnlkpifafklkaaGreatDoor
open Go.RowKit

def OwnP (B0 : Nat) (W : World) (c : Option Addr) (np : Nat) (P : Nat → RowD) : Prop := ∃ (gR : Nat) (v : Nat → Value), B0 ≤ gR ∧
  (∀ j, j < np → c = some ⟨gR, 0, none⟩ ∧ W.cell? ⟨gR, j, none⟩ = some (v j) ∧ W.frozen? ⟨gR, j, none⟩ = false) ∧ (∀ j, j < np → W.ownsRow B0 3 1 (v j) (P j).n (rowCells (P j))) ∧
  (∀ j k, j < np → k < np → j ≠ k → Apart (v j) (v k)) ∧ ∀ j, j < np → (v j).ownBlock ≠ some gR
theorem LP.ownP {B0 : Nat} {W : World} {b gR : Nat} {a : Option Addr} {len cap : Nat} {gap : Int} {a' : Option Addr} {np cap' : Nat} {c : Option Addr} {nc : Nat} {v : Nat → Value} {P : Nat → RowD} {last : Int} (h : LP B0 W b gR a len cap gap a' np cap' c nc v P last) : OwnP B0 W c np P :=
  ⟨gR, v, h.lg, h.row, h.own, h.apart, fun j hj => (h.off j hj).2⟩
section
variable {B0 : Nat} {W : World} {c : Option Addr} {np : Nat} {P : Nat → RowD}
theorem OwnP.same (h : OwnP B0 W c np P) {W' : World} (hs : ∀ k, B0 ≤ k → k < W.heap.size → W'.heap[k]? = W.heap[k]?) : OwnP B0 W' c np P := by
  obtain ⟨gR, v, h1, h2, h3, h4, h5⟩ := h
  refine ⟨gR, v, h1, fun j hj => ?_, fun j hj => ownsRow_same (h3 j hj) (fun k hk => hs k ((h3 j hj).lt k hk).1 ((h3 j hj).lt k hk).2), h4, h5⟩
  obtain ⟨e, hc, hz⟩ := h2 j hj
  have hg := hs gR h1 (ltCell hc)
  exact ⟨e, (World.cell?_of_block (w := W) (w' := W') (a := ⟨gR, j, none⟩) hg).trans hc, (World.frozen?_of_block (w := W) (w' := W') (a := ⟨gR, j, none⟩) hg).trans hz⟩
theorem OwnP.later (h : OwnP B0 W c np P) {W' : World} (hB : Below W.heap.size W W') : OwnP B0 W' c np P := h.same (fun k _ hk => hB.block k hk)
theorem OwnP.set (h : OwnP B0 W c np P) {p : Addr} {x : Value} (hp : p.block < B0) : OwnP B0 (W.setCell p x) c np P := h.same (fun k hk _ => Below.heap_setCell W p x k (by omega))
theorem OwnP.low (h : OwnP B0 W c np P) {B1 : Nat} (hb : B1 ≤ B0) : OwnP B1 W c np P := by
  obtain ⟨gR, v, h1, h2, h3, h4, h5⟩ := h
  exact ⟨gR, v, by omega, h2, fun j hj => Joins.ownsRow_le (h3 j hj) hb, h4, h5⟩
theorem OwnP.rows (h : OwnP B0 W c np P) (hn : ∀ j, j < np → (P j).n ≤ 10) : IsRows B0 W.heap.size W c np P := fun j hj => by
  obtain ⟨gR, v, h1, h2, h3, h4, h5⟩ := h
  obtain ⟨e, hc, _⟩ := h2 j hj
  have ho := h3 j hj
  have hml : (P j).n ≤ maxLen := by have := hn j hj; unfold maxLen; omega
  rcases ho.2 with ⟨e0, h0⟩ | ⟨g, cp, cur, e0, hb, hg, _⟩
  · exact ⟨gR, 0, none, 0, e, h1, ltCell hc, by rw [Nat.zero_add, hc, e0, h0], fun m hm => by omega, hml⟩
  · refine ⟨gR, 0, some ⟨g, 0, none⟩, cp, e, h1, ltCell hc, by rw [Nat.zero_add, hc, e0], fun m hm => ?_, hml⟩
    rw [e0] at ho
    exact ⟨g, 0, rfl, (ho.lt g rfl).1, (ho.lt g rfl).2, by rw [Nat.zero_add, ho.cellAt m (by omega)]; exact rowCells_at _ _ hm⟩
end
end Go.Proofs.YthnlkpifafklkaaGreatDoor

namespace Go.Proofs.YthnlkpifafklkaaGreatDoor
open Go.RowKit

theorem runP_stick {np : Nat} {g : Nat → Int} {f : Nat → TrainD} {gap : Int} {o : Nat → Int} {k : Nat} (h : (runP np g f gap o k).code ≠ 0) : ∀ d, runP np g f gap o (k + d) = runP np g f gap o k
  | 0 => rfl
  | d + 1 => by
    show stepP np g f gap (o (k + d)) (k + d) (runP np g f gap o (k + d)) = _
    rw [runP_stick h d]
    unfold stepP
    rw [if_pos h]
theorem runP_at {np : Nat} {g : Nat → Int} {f : Nat → TrainD} {gap : Int} {o : Nat → Int} : ∀ k, (runP np g f gap o k).code = 0 → (runP np g f gap o k).at_ = 0
  | 0, _ => rfl
  | k + 1, h => by
    have ih := runP_at (np := np) (g := g) (f := f) (gap := gap) (o := o) k
    have h' : (stepP np g f gap (o k) k (runP np g f gap o k)).code = 0 := h
    show (stepP np g f gap (o k) k (runP np g f gap o k)).at_ = 0
    unfold stepP at h' ⊢
    by_cases hc : (runP np g f gap o k).code ≠ 0
    · rw [if_pos hc] at h'; exact absurd h' hc
    · rw [if_neg hc] at h' ⊢
      by_cases hi : inB (o k) 0 ((np : Int) - 1) = true
      · rw [if_pos hi] at h' ⊢
        by_cases hn : (nextOf np g f (runP np g f gap o k).P gap (runP np g f gap o k).last (o k).toNat).1 = 0
        · rw [if_pos hn]
        · rw [if_neg hn] at h'; exact absurd h' hn
      · rw [if_neg hi] at h'; simp at h'
noncomputable def placeSt (nt : Nat) (g : Nat → Int) (gap : Int) (np : Nat) (f : Nat → TrainD) (no : Nat) (o : Nat → Int) : StP :=
  if (faultOf nt g gap np f).1 = 0 ∧ no ≤ 10 then
    (if (runP np g f gap o no).code ≠ 0 then runP np g f gap o no else if no = legSum f np then runP np g f gap o no else ⟨4, no, (runP np g f gap o no).P, (runP np g f gap o no).last⟩)
  else ⟨1, 0, fun _ => ⟨0, fun _ => 0⟩, 0⟩

theorem box31 (w : World) (a : Option Addr) (len cap : Nat) (gap : Int) (a' : Option Addr) (np cap' : Nat) (t t' : TypeId) :
    (((w.alloc (.cells #[.slice a len cap, .int .i64 gap, .slice a' np cap'] t)).alloc (.cells #[.int .i64 0, .int .i64 0, .slice none 0 0] t')).cell? ⟨w.heap.size, 0, none⟩ = some (.slice a len cap) ∧ ((w.alloc (.cells #[.slice a len cap, .int .i64 gap, .slice a' np cap'] t)).alloc (.cells #[.int .i64 0, .int .i64 0, .slice none 0 0] t')).cell? ⟨w.heap.size, 1, none⟩ = some (.int .i64 gap) ∧
    ((w.alloc (.cells #[.slice a len cap, .int .i64 gap, .slice a' np cap'] t)).alloc (.cells #[.int .i64 0, .int .i64 0, .slice none 0 0] t')).cell? ⟨w.heap.size, 2, none⟩ = some (.slice a' np cap')) ∧ Room (w.heap.size + 1) 3 ((w.alloc (.cells #[.slice a len cap, .int .i64 gap, .slice a' np cap'] t)).alloc (.cells #[.int .i64 0, .int .i64 0, .slice none 0 0] t')) := by
  obtain ⟨n0, n1, n2⟩ := new3 w (.slice a len cap) (.int .i64 gap) (.slice a' np cap') t
  refine ⟨⟨cellLater (b1 _ _) n0, cellLater (b1 _ _) n1, cellLater (b1 _ _) n2⟩, ?_⟩
  have h := Room.lit (w.alloc (.cells #[.slice a len cap, .int .i64 gap, .slice a' np cap'] t)) #[.int .i64 0, .int .i64 0, .slice none 0 0] t' 3 (Nat.le_refl _)
  rwa [World.size_alloc] at h
theorem below_set3 {n : Nat} {A W : World} (h : Below n A W) {b : Nat} (hb : n ≤ b) (x y z : Value) : Below n A (((W.setCell ⟨b, 0, none⟩ x).setCell ⟨b, 1, none⟩ y).setCell ⟨b, 2, none⟩ z) :=
  ((h.setCell (p := ⟨b, 0, none⟩) hb _).setCell (p := ⟨b, 1, none⟩) hb _).setCell (p := ⟨b, 2, none⟩) hb _

/-- the answer of a Place, as it lies: its plan in memory of its own, from B0 on -/
def IsPlaced (B0 : Nat) (W : World) (st : StP) (np : Nat) (v : Value) : Prop :=
  ∃ cv, v = .agg #[.int .i64 st.code, .int .i64 (st.at_ : Int), cv] ∧ (st.code ≠ 0 → cv = .slice none 0 0) ∧ (st.code = 0 → ∃ c nc, cv = .slice c np nc ∧ OwnP B0 W c np st.P ∧ ∀ j, j < np → (st.P j).n ≤ 10)
end Go.Proofs.YthnlkpifafklkaaGreatDoor
