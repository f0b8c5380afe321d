/-
  A plan of the call's own: its rows, no two in one block.
  The plan of an order: what a Place answers, and how that lies.
  The run of an order, step by step.
-/
import Derived.Test.YtnjaegeapcijpaaDoorGSp
import Derived.Test.YtnjaegeapcijpaaDoorTo
import Derived.Test.YtnjaegeapcijpaaDoorGPl
namespace Go.Proofs.YtnjaegeapcijpaaDoor
open Go.RowKit

def OwnP (B0 : Nat) (W : World) (c : Option Addr) (np : Nat) (P : Nat → RowD) : Prop := ∃ (gR : Nat) (v : Nat → Value), B0 ≤ gR ∧
  (∀ j, j < np → c = some ⟨gR, 0, none⟩ ∧ W.cell? ⟨gR, j, none⟩ = some (v j) ∧ W.frozen? ⟨gR, j, none⟩ = false) ∧ (∀ j, j < np → W.ownsRow B0 3 1 (v j) (P j).n (rowCells (P j))) ∧
  (∀ j k, j < np → k < np → j ≠ k → Apart (v j) (v k)) ∧ ∀ j, j < np → (v j).ownBlock ≠ some gR
theorem LP.ownP {B0 : Nat} {W : World} {b gR : Nat} {a : Option Addr} {len cap : Nat} {gap : Int} {a' : Option Addr} {np cap' : Nat} {c : Option Addr} {nc : Nat} {v : Nat → Value} {P : Nat → RowD} {last : Int} (h : LP B0 W b gR a len cap gap a' np cap' c nc v P last) : OwnP B0 W c np P :=
  ⟨gR, v, h.lg, h.row, h.own, h.apart, fun j hj => (h.off j hj).2⟩
section
variable {B0 : Nat} {W : World} {c : Option Addr} {np : Nat} {P : Nat → RowD}
theorem OwnP.same (h : OwnP B0 W c np P) {W' : World} (hs : ∀ k, B0 ≤ k → k < W.heap.size → W'.heap[k]? = W.heap[k]?) : OwnP B0 W' c np P := by
  obtain ⟨gR, v, h1, h2, h3, h4, h5⟩ := h
  refine ⟨gR, v, h1, fun j hj => ?_, fun j hj => ownsRow_same (h3 j hj) (fun k hk => hs k ((h3 j hj).lt k hk).1 ((h3 j hj).lt k hk).2), h4, h5⟩
  obtain ⟨e, hc, hz⟩ := h2 j hj
  have hg := hs gR h1 (ltCell hc)
  exact ⟨e, (World.cell?_of_block (w := W) (w' := W') (a := ⟨gR, j, none⟩) hg).trans hc, (World.frozen?_of_block (w := W) (w' := W') (a := ⟨gR, j, none⟩) hg).trans hz⟩
theorem OwnP.later (h : OwnP B0 W c np P) {W' : World} (hB : Below W.heap.size W W') : OwnP B0 W' c np P := h.same (fun k _ hk => hB.block k hk)
theorem OwnP.set (h : OwnP B0 W c np P) {p : Addr} {x : Value} (hp : p.block < B0) : OwnP B0 (W.setCell p x) c np P := h.same (fun k hk _ => Below.heap_setCell W p x k (by omega))
theorem OwnP.low (h : OwnP B0 W c np P) {B1 : Nat} (hb : B1 ≤ B0) : OwnP B1 W c np P := by
  obtain ⟨gR, v, h1, h2, h3, h4, h5⟩ := h
  exact ⟨gR, v, by omega, h2, fun j hj => Joins.ownsRow_le (h3 j hj) hb, h4, h5⟩
theorem OwnP.rows (h : OwnP B0 W c np P) (hn : ∀ j, j < np → (P j).n ≤ 10) : IsRows B0 W.heap.size W c np P := fun j hj => by
  obtain ⟨gR, v, h1, h2, h3, h4, h5⟩ := h
  obtain ⟨e, hc, _⟩ := h2 j hj
  have ho := h3 j hj
  have hml : (P j).n ≤ maxLen := by have := hn j hj; unfold maxLen; omega
  rcases ho.2 with ⟨e0, h0⟩ | ⟨g, cp, cur, e0, hb, hg, _⟩
  · exact ⟨gR, 0, none, 0, e, h1, ltCell hc, by rw [Nat.zero_add, hc, e0, h0], fun m hm => by omega, hml⟩
  · refine ⟨gR, 0, some ⟨g, 0, none⟩, cp, e, h1, ltCell hc, by rw [Nat.zero_add, hc, e0], fun m hm => ?_, hml⟩
    rw [e0] at ho
    exact ⟨g, 0, rfl, (ho.lt g rfl).1, (ho.lt g rfl).2, by rw [Nat.zero_add, ho.cellAt m (by omega)]; exact rowCells_at _ _ hm⟩
end
end Go.Proofs.YtnjaegeapcijpaaDoor

namespace Go.Proofs.YtnjaegeapcijpaaDoor
open Go.RowKit

theorem runP_stick {np : Nat} {g : Nat → Int} {f : Nat → TrainD} {gap : Int} {o : Nat → Int} {k : Nat} (h : (runP np g f gap o k).code ≠ 0) : ∀ d, runP np g f gap o (k + d) = runP np g f gap o k
  | 0 => rfl
  | d + 1 => by
    show stepP np g f gap (o (k + d)) (k + d) (runP np g f gap o (k + d)) = _
    rw [runP_stick h d]
    unfold stepP
    rw [if_pos h]
theorem runP_at {np : Nat} {g : Nat → Int} {f : Nat → TrainD} {gap : Int} {o : Nat → Int} : ∀ k, (runP np g f gap o k).code = 0 → (runP np g f gap o k).at_ = 0
  | 0, _ => rfl
  | k + 1, h => by
    have ih := runP_at (np := np) (g := g) (f := f) (gap := gap) (o := o) k
    have h' : (stepP np g f gap (o k) k (runP np g f gap o k)).code = 0 := h
    show (stepP np g f gap (o k) k (runP np g f gap o k)).at_ = 0
    unfold stepP at h' ⊢
    by_cases hc : (runP np g f gap o k).code ≠ 0
    · rw [if_pos hc] at h'; exact absurd h' hc
    · rw [if_neg hc] at h' ⊢
      by_cases hi : inB (o k) 0 ((np : Int) - 1) = true
      · rw [if_pos hi] at h' ⊢
        by_cases hn : (nextOf np g f (runP np g f gap o k).P gap (runP np g f gap o k).last (o k).toNat).1 = 0
        · rw [if_pos hn]
        · rw [if_neg hn] at h'; exact absurd h' hn
      · rw [if_neg hi] at h'; simp at h'
noncomputable def placeSt (nt : Nat) (g : Nat → Int) (gap : Int) (np : Nat) (f : Nat → TrainD) (no : Nat) (o : Nat → Int) : StP :=
  if (faultOf nt g gap np f).1 = 0 ∧ no ≤ 10 then
    (if (runP np g f gap o no).code ≠ 0 then runP np g f gap o no else if no = legSum f np then runP np g f gap o no else ⟨4, no, (runP np g f gap o no).P, (runP np g f gap o no).last⟩)
  else ⟨1, 0, fun _ => ⟨0, fun _ => 0⟩, 0⟩

theorem box31 (w : World) (a : Option Addr) (len cap : Nat) (gap : Int) (a' : Option Addr) (np cap' : Nat) (t t' : TypeId) :
    (((w.alloc (.cells #[.slice a len cap, .int .i64 gap, .slice a' np cap'] t)).alloc (.cells #[.int .i64 0, .int .i64 0, .slice none 0 0] t')).cell? ⟨w.heap.size, 0, none⟩ = some (.slice a len cap) ∧ ((w.alloc (.cells #[.slice a len cap, .int .i64 gap, .slice a' np cap'] t)).alloc (.cells #[.int .i64 0, .int .i64 0, .slice none 0 0] t')).cell? ⟨w.heap.size, 1, none⟩ = some (.int .i64 gap) ∧
    ((w.alloc (.cells #[.slice a len cap, .int .i64 gap, .slice a' np cap'] t)).alloc (.cells #[.int .i64 0, .int .i64 0, .slice none 0 0] t')).cell? ⟨w.heap.size, 2, none⟩ = some (.slice a' np cap')) ∧ Room (w.heap.size + 1) 3 ((w.alloc (.cells #[.slice a len cap, .int .i64 gap, .slice a' np cap'] t)).alloc (.cells #[.int .i64 0, .int .i64 0, .slice none 0 0] t')) := by
  obtain ⟨n0, n1, n2⟩ := new3 w (.slice a len cap) (.int .i64 gap) (.slice a' np cap') t
  refine ⟨⟨cellLater (b1 _ _) n0, cellLater (b1 _ _) n1, cellLater (b1 _ _) n2⟩, ?_⟩
  have h := Room.lit (w.alloc (.cells #[.slice a len cap, .int .i64 gap, .slice a' np cap'] t)) #[.int .i64 0, .int .i64 0, .slice none 0 0] t' 3 (Nat.le_refl _)
  rwa [World.size_alloc] at h
theorem below_set3 {n : Nat} {A W : World} (h : Below n A W) {b : Nat} (hb : n ≤ b) (x y z : Value) : Below n A (((W.setCell ⟨b, 0, none⟩ x).setCell ⟨b, 1, none⟩ y).setCell ⟨b, 2, none⟩ z) :=
  ((h.setCell (p := ⟨b, 0, none⟩) hb _).setCell (p := ⟨b, 1, none⟩) hb _).setCell (p := ⟨b, 2, none⟩) hb _

/-- the answer of a Place, as it lies: its plan in memory of its own, from B0 on -/
def IsPlaced (B0 : Nat) (W : World) (st : StP) (np : Nat) (v : Value) : Prop :=
  ∃ cv, v = .agg #[.int .i64 st.code, .int .i64 (st.at_ : Int), cv] ∧ (st.code ≠ 0 → cv = .slice none 0 0) ∧ (st.code = 0 → ∃ c nc, cv = .slice c np nc ∧ OwnP B0 W c np st.P ∧ ∀ j, j < np → (st.P j).n ≤ 10)
end Go.Proofs.YtnjaegeapcijpaaDoor

namespace Go.Proofs.YtnjaegeapcijpaaDoor
open Go.RowKit

section
variable {len np : Nat} {g : Nat → Int} {gap : Int} {f : Nat → TrainD} {o : Nat → Int}
theorem run_step {n : Nat} (hc : (runP np g f gap o (n + 1)).code = 0) : (runP np g f gap o n).code = 0 ∧ ∃ (i : Nat) (t : Int), i < np ∧ o n = (i : Int) ∧ ((runP np g f gap o n).P i).n ≠ (f i).nl ∧ IsFirst np g f (runP np g f gap o n).P (stOf f (runP np g f gap o n).P i) (lowOf np f (runP np g f gap o n).P gap (runP np g f gap o n).last i) t ∧ runP np g f gap o (n + 1) = ⟨0, 0, moreP (runP np g f gap o n).P i t, t⟩ := by
  have h0 : (runP np g f gap o n).code = 0 := Classical.byContradiction fun e => by
    have := runP_stick e 1
    rw [this] at hc
    exact e hc
  refine ⟨h0, ?_⟩
  have hs : runP np g f gap o (n + 1) = stepP np g f gap (o n) n (runP np g f gap o n) := rfl
  rw [hs] at hc ⊢
  unfold stepP at hc ⊢
  rw [if_neg (by simp [h0])] at hc ⊢
  by_cases hb : inB (o n) 0 ((np : Int) - 1) = true
  · rw [if_pos hb] at hc ⊢
    have hr := of_decide_eq_true hb
    by_cases hn : (nextOf np g f (runP np g f gap o n).P gap (runP np g f gap o n).last (o n).toNat).1 = 0
    · rw [if_pos hn]
      refine ⟨(o n).toNat, _, by omega, by omega, ?_, ?_, rfl⟩
      · intro e
        rw [nextOf_two e] at hn
        exact absurd hn (by decide)
      · unfold nextOf at hn ⊢
        by_cases e1 : ((runP np g f gap o n).P (o n).toNat).n = (f (o n).toNat).nl
        · rw [if_pos e1] at hn; exact absurd hn (by decide)
        · rw [if_neg e1] at hn ⊢
          split
          · rename_i h1
            exact h1.choose_spec
          · rename_i h1
            rw [dif_neg h1] at hn
            exact absurd hn (by decide)
    · rw [if_neg hn] at hc
      exact absurd hc hn
  · rw [if_neg hb] at hc
    exact absurd hc (by simp)
theorem run_all (hR : RightL len np f) (hG : RightG len g gap np f) : ∀ n, n ≤ 10 → (runP np g f gap o n).code = 0 → RunOk len np g f gap (runP np g f gap o n) n ∧ NoC np g gap f (runP np g f gap o n).P
  | 0, _, _ => ⟨runP_zero np g f gap o len, NoC.start np g gap f⟩
  | n + 1, hn, hc => by
    obtain ⟨h0, i, t, hi, ho, hne, hf, e⟩ := run_step hc
    obtain ⟨h1, h2⟩ := run_all hR hG n (by omega) h0
    have hk : ((runP np g f gap o n).P i).n < (f i).nl := by have := h1.part.le i hi; omega
    rw [e]
    exact ⟨(runOk_step hR hG h1 h0 hi hk hf (by omega)).2, h2.more h1.part hi hk hf⟩
theorem run_ext {n : Nat} : ∀ d, (runP np g f gap o (n + d)).code = 0 → (runP np g f gap o n).code = 0 ∧ ∀ j m, m < ((runP np g f gap o n).P j).n → m < ((runP np g f gap o (n + d)).P j).n ∧ ((runP np g f gap o (n + d)).P j).s m = ((runP np g f gap o n).P j).s m
  | 0, h => ⟨h, fun _ _ hm => ⟨hm, rfl⟩⟩
  | d + 1, h => by
    obtain ⟨h0, i, t, _, _, _, _, e⟩ := run_step (n := n + d) h
    obtain ⟨h1, h2⟩ := run_ext (n := n) d h0
    refine ⟨h1, fun j m hm => ?_⟩
    obtain ⟨h3, h4⟩ := h2 j m hm
    rw [show n + (d + 1) = n + d + 1 from rfl, e]
    exact ⟨moreP_lt h3, (moreP_old h3).trans h4⟩
/-- step n of a whole run: whose leg, which, and when it begins in the plan -/
theorem run_leg (hR : RightL len np f) (hG : RightG len g gap np f) {no n : Nat} (hno : no ≤ 10) (hc : (runP np g f gap o no).code = 0) (hn : n < no) : ∃ i : Nat, i < np ∧ o n = (i : Int) ∧ ((runP np g f gap o n).P i).n < ((runP np g f gap o no).P i).n ∧ ((runP np g f gap o no).P i).s ((runP np g f gap o n).P i).n = (runP np g f gap o (n + 1)).last ∧ (runP np g f gap o n).last ≤ (runP np g f gap o (n + 1)).last ∧ ∀ j, ((runP np g f gap o (n + 1)).P j).n = ((runP np g f gap o n).P j).n + (if j = i then 1 else 0) := by
  obtain ⟨d, rfl⟩ : ∃ d, no = n + 1 + d := ⟨no - (n + 1), by omega⟩
  obtain ⟨h1, hx⟩ := run_ext (n := n + 1) d hc
  obtain ⟨h0, i, t, hi, ho, hne, hf, e⟩ := run_step h1
  obtain ⟨hk, _⟩ := run_all hR hG n (by omega) h0
  have hk2 : ((runP np g f gap o n).P i).n < (f i).nl := by have := hk.part.le i hi; omega
  have hnew : ((runP np g f gap o n).P i).n < ((runP np g f gap o (n + 1)).P i).n := by rw [e]; show _ < (moreP _ _ _ _).n; rw [moreP_n]; omega
  obtain ⟨hx1, hx2⟩ := hx i _ hnew
  refine ⟨i, hi, ho, hx1, ?_, ?_, fun j => ?_⟩
  · rw [hx2, e]; exact moreP_new
  · rw [e]
    have := (low_bd hR hG hk.part hi hk2).1
    have := hf.1
    show (runP np g f gap o n).last ≤ t
    omega
  · rw [e]
    show (moreP _ _ _ j).n = _
    by_cases hj : j = i
    · subst hj; rw [moreP_n, if_pos rfl]
    · rw [moreP_other hj, if_neg hj]; omega
theorem rows_full {P : Nat → RowD} : ∀ {n : Nat}, (∀ j, j < n → (P j).n ≤ (f j).nl) → rowSumQ P n = legSum f n → ∀ j, j < n → (P j).n = (f j).nl
  | 0, _, _ => fun j hj => absurd hj (Nat.not_lt_zero j)
  | n + 1, hle, he => fun j hj => by
    have hs : ∀ m, m ≤ n → rowSumQ P m ≤ legSum f m := fun m => by
      induction m with
      | zero => exact fun _ => Nat.le_refl _
      | succ m ih =>
        intro hm
        have h1 := ih (by omega)
        have h2 := hle m (by omega)
        simp only [rowSumQ, legSum]; omega
    have h1 := hs n (Nat.le_refl _)
    have h2 := hle n (by omega)
    simp only [rowSumQ, legSum] at he
    by_cases e : j = n
    · subst e; omega
    · exact rows_full (n := n) (fun j hj => hle j (by omega)) (by omega) j (by omega)
theorem placeSt_zero {no : Nat} (h : (placeSt len g gap np f no o).code = 0) : faultOf len g gap np f = (0, 0) ∧ no ≤ 10 ∧ (runP np g f gap o no).code = 0 ∧ no = legSum f np ∧ placeSt len g gap np f no o = runP np g f gap o no := by
  unfold placeSt at h ⊢
  by_cases hb : (faultOf len g gap np f).1 = 0 ∧ no ≤ 10
  · rw [if_pos hb] at h ⊢
    by_cases hc : (runP np g f gap o no).code = 0
    · rw [if_neg (by simp [hc])] at h ⊢
      by_cases hl : no = legSum f np
      · rw [if_pos hl]
        exact ⟨faultOf_snd hb.1, hb.2, hc, hl, rfl⟩
      · rw [if_neg hl] at h; exact absurd h (by simp)
    · rw [if_pos hc] at h; exact absurd h hc
  · rw [if_neg hb] at h; exact absurd h (by simp)
/-- the plan of an order, where it has one, can be -/
theorem placed_clash {no : Nat} (h : (placeSt len g gap np f no o).code = 0) : clashOf len g gap np f np (placeSt len g gap np f no o).P = (0, 0, 0, 0) := by
  obtain ⟨hF, hno, hc, hl, e⟩ := placeSt_zero h
  obtain ⟨h1, h2⟩ := run_all (rightL_of hF) (rightG_of hF) no hno hc
  rw [e]
  exact h2.clash hF h1.part (rows_full h1.part.le (by rw [h1.sum, hl]))
end
end Go.Proofs.YtnjaegeapcijpaaDoor
