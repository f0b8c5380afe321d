/-
  Two maps of rows of holds that a call has made: who has what, by track and by station; no two rows lie in one block.
-/
import Derived.Test.YtelickcfodcmaaaGreatDoorKv
import Derived.Test.YtelickcfodcmaaaGreatDoorPlainH
import Derived.Deep.AppendLies
namespace Go.Proofs.YtelickcfodcmaaaGreatDoor
open Go.RowKit

def holdCells : List HoldD → List Value
  | [] => []
  | h :: L => .int .i64 h.tr :: .int .i64 h.frm :: .int .i64 h.free :: holdCells L
theorem holdCells_len : ∀ L : List HoldD, (holdCells L).length = L.length * 3
  | [] => rfl
  | h :: L => by simp only [holdCells, List.length_cons, holdCells_len L]; omega
theorem holdCells_snoc : ∀ (L : List HoldD) (h : HoldD), holdCells (L ++ [h]) = holdCells L ++ [.int .i64 h.tr, .int .i64 h.frm, .int .i64 h.free]
  | [], _ => rfl
  | x :: L, h => by simp only [List.cons_append, holdCells, holdCells_snoc L h]
theorem holdCells_at : ∀ (L : List HoldD) (r : Nat) (h : HoldD), L[r]? = some h → (holdCells L)[r * 3]? = some (.int .i64 h.tr) ∧ (holdCells L)[r * 3 + 1]? = some (.int .i64 h.frm) ∧ (holdCells L)[r * 3 + 2]? = some (.int .i64 h.free)
  | [], r, h, e => by simp at e
  | x :: L, 0, h, e => by
    simp at e; subst e
    exact ⟨rfl, rfl, rfl⟩
  | x :: L, r + 1, h, e => by
    have e' : L[r]? = some h := by simpa using e
    obtain ⟨h0, h1, h2⟩ := holdCells_at L r h e'
    refine ⟨?_, ?_, ?_⟩
    · rw [show (r + 1) * 3 = r * 3 + 3 by omega]; exact h0
    · rw [show (r + 1) * 3 + 1 = r * 3 + 1 + 3 by omega]; exact h1
    · rw [show (r + 1) * 3 + 2 = r * 3 + 2 + 3 by omega]; exact h2

/-- a row of holds, as it lies -/
def IsHolds (W : World) (v : Value) (L : List HoldD) : Prop :=
  ∃ a cap, v = .slice a L.length cap ∧ ∀ r h, L[r]? = some h → ∃ g off, a = some ⟨g, off, none⟩ ∧ W.cell? ⟨g, off + r * 3, none⟩ = some (.int .i64 h.tr) ∧ W.cell? ⟨g, off + r * 3 + 1, none⟩ = some (.int .i64 h.frm) ∧ W.cell? ⟨g, off + r * 3 + 2, none⟩ = some (.int .i64 h.free)
theorem IsHolds.later {W W' : World} {v : Value} {L : List HoldD} (h : IsHolds W v L) (hB : Below W.heap.size W W') : IsHolds W' v L := by
  obtain ⟨a, cap, e, hc⟩ := h
  refine ⟨a, cap, e, fun r x hx => ?_⟩
  obtain ⟨g, off, e2, c0, c1, c2⟩ := hc r x hx
  exact ⟨g, off, e2, cellLater hB c0, cellLater hB c1, cellLater hB c2⟩
theorem isHolds_of {W : World} {b0 : Nat} {v : Value} {L : List HoldD} (h : W.ownsRow b0 78 3 v L.length (holdCells L)) : IsHolds W v L := by
  rcases h.2 with ⟨rfl, h0⟩ | ⟨g, cap, cur, rfl, _, hg, _⟩
  · exact ⟨none, 0, by rw [h0], fun r x hx => by rw [List.getElem?_eq_none (by omega)] at hx; cases hx⟩
  · refine ⟨_, cap, rfl, fun r x hx => ⟨g, 0, rfl, ?_⟩⟩
    obtain ⟨h0, h1, h2⟩ := holdCells_at L r x hx
    have hc := h.cells (g := g) rfl
    have e : ∀ j, (⟨g, 0, none⟩ : Addr).add j = ⟨g, 0 + j, none⟩ := fun j => by unfold Addr.add; split <;> simp_all
    refine ⟨?_, ?_, ?_⟩
    · have := hc _ _ h0; rwa [e] at this
    · have := hc _ _ h1; rwa [e] at this
    · have := hc _ _ h2; rwa [e] at this

def Apart (u v : Value) : Prop := u.ownBlock = none ∨ u.ownBlock ≠ v.ownBlock
/-- the call's own two maps in a world -/
structure Gr (W : World) (b0 bT bS n : Nat) (mT mS : Int → Value) (LT LS : Int → List HoldD) : Prop where
  kT : KV 3 W bT n (.slice none 0 0) mT
  kS : KV 3 W bS n (.slice none 0 0) mS
  oT : ∀ x, W.ownsRow b0 78 3 (mT x) (LT x).length (holdCells (LT x))
  oS : ∀ x, W.ownsRow b0 78 3 (mS x) (LS x).length (holdCells (LS x))
  aT : ∀ x y, x ≠ y → Apart (mT x) (mT y)
  aS : ∀ x y, x ≠ y → Apart (mS x) (mS y)
  aTS : ∀ x y, Apart (mT x) (mS y)
  aST : ∀ x y, Apart (mS x) (mT y)
  ltT : bT < b0
  ltS : bS < b0
  ne : bT ≠ bS
  sz : b0 ≤ W.heap.size
theorem ownsRow_same {W W' : World} {b0 : Nat} {e : TypeId} {size : Nat} {v : Value} {n : Nat} {xs : List Value} (h : W.ownsRow b0 e size v n xs) (hs : ∀ k, v.ownBlock = some k → W'.heap[k]? = W.heap[k]?) : W'.ownsRow b0 e size v n xs := by
  refine ⟨h.1, ?_⟩
  rcases h.2 with hn | ⟨g, cap, cur, rfl, hb, hgg, rest⟩
  · exact .inl hn
  · exact .inr ⟨g, cap, cur, rfl, hb, (hs g rfl).trans hgg, rest⟩
theorem Gr.later {W W' : World} {b0 bT bS n : Nat} {mT mS : Int → Value} {LT LS : Int → List HoldD} (h : Gr W b0 bT bS n mT mS LT LS) (hB : Below W.heap.size W W') : Gr W' b0 bT bS n mT mS LT LS :=
  ⟨h.kT.later hB, h.kS.later hB, fun x => ownsRow_same (h.oT x) (fun k hk => hB.block k ((h.oT x).lt k hk).2), fun x => ownsRow_same (h.oS x) (fun k hk => hB.block k ((h.oS x).lt k hk).2), h.aT, h.aS, h.aTS, h.aST, h.ltT, h.ltS, h.ne, Nat.le_trans h.sz hB.size⟩
theorem Gr.set {W : World} {b0 bT bS n : Nat} {mT mS : Int → Value} {LT LS : Int → List HoldD} (h : Gr W b0 bT bS n mT mS LT LS) {p : Addr} {x : Value} (hp : p.block < b0) (h1 : p.block ≠ bT) (h2 : p.block ≠ bS) : Gr (W.setCell p x) b0 bT bS n mT mS LT LS :=
  ⟨h.kT.set h1, h.kS.set h2, fun y => ownsRow_same (h.oT y) (fun k hk => Below.heap_setCell W p x k (by have := ((h.oT y).lt k hk).1; omega)), fun y => ownsRow_same (h.oS y) (fun k hk => Below.heap_setCell W p x k (by have := ((h.oS y).lt k hk).1; omega)), h.aT, h.aS, h.aTS, h.aST, h.ltT, h.ltS, h.ne, by simpa using h.sz⟩
/-- block k is no row of theirs -/
def NoRow (mT mS : Int → Value) (k : Nat) : Prop := ∀ x, (mT x).ownBlock ≠ some k ∧ (mS x).ownBlock ≠ some k
theorem Gr.noRow_low {W : World} {b0 bT bS n : Nat} {mT mS : Int → Value} {LT LS : Int → List HoldD} (h : Gr W b0 bT bS n mT mS LT LS) {k : Nat} (hk : k < b0) : NoRow mT mS k := fun x =>
  ⟨fun e => by have := ((h.oT x).lt k e).1; omega, fun e => by have := ((h.oS x).lt k e).1; omega⟩
theorem Gr.noRow_new {W : World} {b0 bT bS n : Nat} {mT mS : Int → Value} {LT LS : Int → List HoldD} (h : Gr W b0 bT bS n mT mS LT LS) {k : Nat} (hk : W.heap.size ≤ k) : NoRow mT mS k := fun x =>
  ⟨fun e => by have := ((h.oT x).lt k e).2; omega, fun e => by have := ((h.oS x).lt k e).2; omega⟩
def upd (m : Int → Value) (x : Int) (v : Value) : Int → Value := fun y => if y = x then v else m y
def updL (m : Int → List HoldD) (x : Int) (h : HoldD) : Int → List HoldD := fun y => if y = x then m y ++ [h] else m y

theorem Tryz.infoHold : (Tryz.prog.info? 78).map (fun i => (i.zero, i.size, i.bytes)) = some (some (.agg #[.int .i64 0, .int .i64 0, .int .i64 0]), 3, 24) := by kernel_rfl
theorem Tryz.zeroHolds (w : World) : (zeroValue 76).run Tryz.prog w = .ok (.slice none 0 0) w := by kernel_rfl

/-- what one more hold under a key makes of the world -/
structure Stepped (W W' W1 W2 : World) (b0 bM : Nat) (row : Option Nat) (mT mS mT' mS' : Int → Value) : Prop where
  g1 : W'.grownBy W1 row
  g2 : W1.grownBy W2 (some bM)
  lowrow : ∀ k, row = some k → b0 ≤ k
  same1 : ∀ k, k < W.heap.size → NoRow mT mS k → W1.heap[k]? = W.heap[k]?
  same2 : ∀ k, k < W.heap.size → NoRow mT mS k → k ≠ bM → W2.heap[k]? = W.heap[k]?
  no : ∀ k, k < W.heap.size → NoRow mT mS k → NoRow mT' mS' k
  sz : W.heap.size < W2.heap.size

theorem Gr.stepT {W : World} {b0 bT bS n : Nat} {mT mS : Int → Value} {LT LS : Int → List HoldD} (h : Gr W b0 bT bS n mT mS LT LS) (x : Int) (hx : (Lit.int .i64 x).wf = true) (hd : HoldD) (hn : n < 1000) (hlen : (LT x).length ≤ 1000) :
    ∃ v' W1 W2, (Builtin.append_ #[76, 76] 76 #[mT x, .slice (some ⟨W.heap.size, 0, none⟩) 1 1]).run Tryz.prog (W.alloc (.cells #[.int .i64 hd.tr, .int .i64 hd.frm, .int .i64 hd.free] 78)) = .ok v' W1 ∧
      (Instr.mapUpdate 60 (.map (some bT)) (.int .i64 x) v').run Tryz.prog W1 = .ok () W2 ∧ Gr W2 b0 bT bS (n + 1) (upd mT x v') mS (updL LT x hd) LS ∧
      Stepped W (W.alloc (.cells #[.int .i64 hd.tr, .int .i64 hd.frm, .int .i64 hd.free] 78)) W1 W2 b0 bT (mT x).ownBlock mT mS (upd mT x v') mS := by
  obtain ⟨i0, hi, hz0, hz1, hz2⟩ := info_parts Tryz.infoHold
  have hA := h.later (b1 W (.cells #[.int .i64 hd.tr, .int .i64 hd.frm, .int .i64 hd.free] 78))
  have hnews := World.news_of_block (w := W.alloc (.cells #[.int .i64 hd.tr, .int .i64 hd.frm, .int .i64 hd.free] 78)) (Go.heap_alloc_new W _)
  obtain ⟨v', W1, hap, hown, hg1, _, hloc⟩ := run_append_own_at (P := Tryz.prog) (W.alloc (.cells #[.int .i64 hd.tr, .int .i64 hd.frm, .int .i64 hd.free] 78)) b0 76 76 78 i0 _ 3 24 Tryz.underlying76 hi hz0 hz1 hz2 rfl (by decide)
    (mT x) (LT x).length (holdCells (LT x)) (hA.oT x) ⟨W.heap.size, 0, none⟩ 1 1 [.int .i64 hd.tr, .int .i64 hd.frm, .int .i64 hd.free] rfl hnews (by intro u hu; simp only [List.mem_cons, List.not_mem_nil, or_false] at hu; rcases hu with rfl | rfl | rfl <;> rfl) (by unfold maxLen; omega) (by omega) hA.sz
  have hrowlow : ∀ k, (mT x).ownBlock = some k → b0 ≤ k := fun k hk => ((h.oT x).lt k hk).1
  have hsame1 : ∀ k, k < W.heap.size → NoRow mT mS k → W1.heap[k]? = W.heap[k]? := fun k hk hno =>
    (hg1.block k (by simp; omega) (fun e => (hno x).1 e.symm)).trans (Go.heap_alloc_old W _ hk)
  have hkT1 : KV 3 W1 bT n (.slice none 0 0) mT := h.kT.same (hsame1 bT h.kT.lt (h.noRow_low h.ltT))
  obtain ⟨W2, hup, hkT2, hg2⟩ := hkT1.update Tryz.underlying3 Tryz.underlying60 (by unfold maxLen; omega) hx v'
  have hsame2 : ∀ k, k < W.heap.size → NoRow mT mS k → k ≠ bT → W2.heap[k]? = W.heap[k]? := fun k hk hno hne =>
    (hg2.block k (by have := hg1.size; simp at this; omega) (by simpa using hne)).trans (hsame1 k hk hno)
  have hs1 := hg1.size
  have hs2 := hg2.size
  simp at hs1
  have hold : ∀ (y : Int) (k : Nat), (mT y).ownBlock = some k ∨ (mS y).ownBlock = some k → k < W.heap.size ∧ b0 ≤ k := by
    rintro y k (e | e)
    · exact ⟨((h.oT y).lt k e).2, ((h.oT y).lt k e).1⟩
    · exact ⟨((h.oS y).lt k e).2, ((h.oS y).lt k e).1⟩
  have hkeep : ∀ u : Value, (∀ k, u.ownBlock = some k → k < W.heap.size ∧ b0 ≤ k) → Apart u (mT x) → ∀ k, u.ownBlock = some k → W2.heap[k]? = W.heap[k]? := by
    intro u hu ha k hk
    obtain ⟨h1, h2⟩ := hu k hk
    have h3 : some k ≠ (mT x).ownBlock := by
      rcases ha with h' | h'
      · rw [hk] at h'; cases h'
      · rw [← hk]; exact h'
    have := h.ltT
    exact (hg2.block k (by omega) (by simp; omega)).trans ((hg1.block k (by simp; omega) h3).trans (Go.heap_alloc_old W _ h1))
  have hv' : ∀ k, v'.ownBlock = some k → (mT x).ownBlock = some k ∨ k = W.heap.size + 1 := by
    intro k hk
    rcases hloc with e | e
    · left; rw [← e]; exact hk
    · right; rw [hk] at e; simpa using e
  have hvA : ∀ u : Value, (∀ k, u.ownBlock = some k → k < W.heap.size ∧ b0 ≤ k) → Apart (mT x) u → Apart v' u := by
    intro u hu ha
    cases hk : v'.ownBlock with
    | none => exact Or.inl hk
    | some k =>
      right
      rw [hk]
      intro e
      rcases hv' k hk with e2 | e2
      · rcases ha with h' | h'
        · rw [h'] at e2; cases e2
        · exact h' (e2.trans e)
      · have := hu k e.symm; omega
  have hAv : ∀ u : Value, (∀ k, u.ownBlock = some k → k < W.heap.size ∧ b0 ≤ k) → Apart u (mT x) → Apart u v' := by
    intro u hu ha
    cases hk : u.ownBlock with
    | none => exact Or.inl hk
    | some k =>
      right
      rw [hk]
      intro e
      rcases hv' k e.symm with e2 | e2
      · rcases ha with h' | h'
        · rw [h'] at hk; cases hk
        · exact h' (hk.trans e2.symm)
      · have := hu k hk; omega
  refine ⟨v', W1, W2, hap, hup, ⟨hkT2, ?_, ?_, ?_, ?_, h.aS, ?_, ?_, h.ltT, h.ltS, h.ne, ?_⟩, ⟨hg1, hg2, hrowlow, hsame1, hsame2, ?_, by omega⟩⟩
  · exact (h.kS.same (hsame2 bS h.kS.lt (h.noRow_low h.ltS) (Ne.symm h.ne))).mono (by omega)
  · intro y
    unfold upd updL
    by_cases e : y = x
    · subst e
      rw [if_pos rfl, if_pos rfl, List.length_append, holdCells_snoc]
      refine ownsRow_same hown (fun k hk => hg2.block k ((hown.lt k hk).2) ?_)
      have := (hown.lt k hk).1
      have := h.ltT
      simp; omega
    · rw [if_neg e, if_neg e]
      exact ownsRow_same (h.oT y) (hkeep _ (fun k hk => hold y k (Or.inl hk)) (h.aT y x e))
  · intro y
    exact ownsRow_same (h.oS y) (hkeep _ (fun k hk => hold y k (Or.inr hk)) (h.aST y x))
  · intro y z hyz
    unfold upd
    by_cases e : y = x
    · subst e
      rw [if_pos rfl, if_neg (Ne.symm hyz)]
      exact hvA _ (fun k hk => hold z k (Or.inl hk)) (h.aT y z hyz)
    · rw [if_neg e]
      by_cases e2 : z = x
      · subst e2
        rw [if_pos rfl]
        exact hAv _ (fun k hk => hold y k (Or.inl hk)) (h.aT y z hyz)
      · rw [if_neg e2]; exact h.aT y z hyz
  · intro y z
    unfold upd
    by_cases e : y = x
    · subst e
      rw [if_pos rfl]
      exact hvA _ (fun k hk => hold z k (Or.inr hk)) (h.aTS y z)
    · rw [if_neg e]; exact h.aTS y z
  · intro y z
    unfold upd
    by_cases e : z = x
    · subst e
      rw [if_pos rfl]
      exact hAv _ (fun k hk => hold y k (Or.inr hk)) (h.aST y z)
    · rw [if_neg e]; exact h.aST y z
  · have := h.sz; omega
  · intro k hk hno y
    refine ⟨?_, (hno y).2⟩
    unfold upd
    by_cases e : y = x
    · rw [if_pos e]
      intro e2
      rcases hv' k e2 with e3 | e3
      · exact (hno x).1 e3
      · omega
    · rw [if_neg e]; exact (hno y).1

theorem Stepped.cell1 {W W' W1 W2 : World} {b0 bM : Nat} {row : Option Nat} {mT mS mT' mS' : Int → Value} (st : Stepped W W' W1 W2 b0 bM row mT mS mT' mS') {k o : Nat} {v : Value} (hc : W.cell? ⟨k, o, none⟩ = some v) (hno : NoRow mT mS k) : W1.cell? ⟨k, o, none⟩ = some v :=
  (World.cell?_of_block (a := ⟨k, o, none⟩) (st.same1 k (ltCell hc) hno)).trans hc
theorem Stepped.cell2 {W W' W1 W2 : World} {b0 bM : Nat} {row : Option Nat} {mT mS mT' mS' : Int → Value} (st : Stepped W W' W1 W2 b0 bM row mT mS mT' mS') {k o : Nat} {v : Value} (hc : W.cell? ⟨k, o, none⟩ = some v) (hno : NoRow mT mS k) (hne : k ≠ bM) : W2.cell? ⟨k, o, none⟩ = some v :=
  (World.cell?_of_block (a := ⟨k, o, none⟩) (st.same2 k (ltCell hc) hno hne)).trans hc
theorem Stepped.below {W W1 W2 : World} {o : Obj} {b0 bM B : Nat} {w : World} {row : Option Nat} {mT mS mT' mS' : Int → Value} (st : Stepped W (W.alloc o) W1 W2 b0 bM row mT mS mT' mS') (hB : Below B w W) (h0 : B ≤ w.heap.size) (h1 : B ≤ b0) (h2 : B ≤ bM) : Below B w W2 := by
  have hs := hB.size
  have s1 := st.g1.size
  simp at s1
  exact ((hB.alloc (by omega) o).grown st.g1 (by simp; omega) (fun k hk => by have := st.lowrow k hk; omega)).grown st.g2 (by omega) (fun k hk => by cases hk; exact h2)

/-- the two maps change their places -/
theorem Gr.swap {W : World} {b0 bT bS n : Nat} {mT mS : Int → Value} {LT LS : Int → List HoldD} (h : Gr W b0 bT bS n mT mS LT LS) : Gr W b0 bS bT n mS mT LS LT :=
  ⟨h.kS, h.kT, h.oS, h.oT, h.aS, h.aT, h.aST, h.aTS, h.ltS, h.ltT, Ne.symm h.ne, h.sz⟩
theorem NoRow.swap {mT mS : Int → Value} {k : Nat} (h : NoRow mT mS k) : NoRow mS mT k := fun x => ⟨(h x).2, (h x).1⟩
theorem Gr.mono {W : World} {b0 bT bS n n' : Nat} {mT mS : Int → Value} {LT LS : Int → List HoldD} (h : Gr W b0 bT bS n mT mS LT LS) (hn : n ≤ n') : Gr W b0 bT bS n' mT mS LT LS :=
  ⟨h.kT.mono hn, h.kS.mono hn, h.oT, h.oS, h.aT, h.aS, h.aTS, h.aST, h.ltT, h.ltS, h.ne, h.sz⟩

theorem allH_len {p : Nat → Nat → Bool} {hd : Nat → Nat → HoldD} (f : Nat → TrainD) : ∀ n, (allH p hd (fun j => (f j).nl) n).length ≤ legSum f n
  | 0 => by simp [allH]
  | n + 1 => by
    have h1 := allH_len (p := p) (hd := hd) f n
    have h2 := rowH_len (p := p) (hd := hd) n (f n).nl
    rw [allH, List.length_append]; simp only [legSum]; omega
theorem updL_row (p : Int → Nat → Nat → Bool) (hd : Nat → Nat → HoldD) (A : Int → List HoldD) (i k : Nat) (x0 : Int) (hp : ∀ x, p x i k = true ↔ x = x0) : updL (fun x => A x ++ rowH (p x) hd i k) x0 (hd i k) = fun x => A x ++ rowH (p x) hd i (k + 1) := by
  funext x
  unfold updL
  rw [rowH]
  by_cases e : x = x0
  · rw [if_pos e, if_pos ((hp x).2 e), List.append_assoc]
  · rw [if_neg e, if_neg (fun h => e ((hp x).1 h)), List.append_nil]

/-- an append, by its run's equation, at a step of a region that draws its order -/
theorem step_append_eq {ops : Array Oper} {o : Oper} {a : Act} {K : Act → World → Prop} {Q : Exit → Act → World → Prop} {E : Prop} (w : World) (hgd : o.guard = none) (s x : Operand) (t : TypeId)
    (ho : o.op = .call { callee := .builtin .append, args := #[s, x], argTypes := #[t, t] }) (v v2 r : Value) (w1 : World) (hs : a.eval s = v) (hx : a.eval x = v2)
    (hr : (Builtin.append_ #[t, t] o.type #[v, v2]).run Tryz.prog w = .ok r w1) (h : K (a.put o.dst r) w1) :
    if Region.wanted o (yielded ops a.tmps) = true then Oper.wp Tryz.prog o a w K Q else E := by
  have hw : Region.wanted o (yielded ops a.tmps) = true := by simp [Region.wanted, hgd]
  rw [if_pos hw]
  unfold Oper.wp execOp
  simp only [ho, resolve, invoke, builtin, Sem.run_bind, Sem.run_pure, Result.andThen_ok, List.map_toArray, List.map_cons, List.map_nil, hs, hx, hr]
  exact h
end Go.Proofs.YtelickcfodcmaaaGreatDoor
