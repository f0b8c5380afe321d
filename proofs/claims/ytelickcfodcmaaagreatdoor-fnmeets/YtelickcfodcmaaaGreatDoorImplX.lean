/-
  The program's word on who has what: its loops.
-/
import Derived.Test.YtelickcfodcmaaaGreatDoorImplW
namespace Go.Proofs.YtelickcfodcmaaaGreatDoor
open Go.RowKit

theorem trackOf_bd {len np : Nat} {g : Nat → Int} {gap : Int} {f : Nat → TrainD} (hR : RightL len np f) (hG : RightG len g gap np f) {i k : Nat} (hi : i < np) (hk : k < (f i).nl) : 0 ≤ trackOf (f i) k ∧ trackOf (f i) k ≤ 1000000000 := by
  have h1 := hR.to i hi k hk
  have h2 := hR.st
  have h3 : 0 ≤ cur (f i) k ∧ cur (f i) k < len := by
    cases k with
    | zero => exact hG.frm i hi
    | succ k => exact hR.to i hi k (by omega)
  unfold trackOf
  split <;> omega
theorem legSum_at {f : Nat → TrainD} : ∀ {n i : Nat}, i < n → legSum f i + (f i).nl ≤ legSum f n
  | n + 1, i, h => by
    by_cases e : i = n
    · subst e; simp only [legSum]; omega
    · have := legSum_at (f := f) (n := n) (i := i) (by omega)
      simp only [legSum]; omega

theorem leavesR_bd {len np : Nat} {f : Nat → TrainD} {P : Nat → RowD} (hR : RightL len np f) (hQ : RightP np f np P) {i k : Nat} (hi : i < np) (hk : k < (f i).nl) : 0 ≤ leavesR (f i) (P i) k ∧ leavesR (f i) (P i) k ≤ 1010000 := by
  have h1 := (hR.train i hi).leg k hk
  have h2 := hQ.at0 i hi k hk
  have h3 := hQ.row i hi
  unfold leavesR
  split
  · have := hQ.at0 i hi (k + 1) (by omega)
    omega
  · omega

/-- behind a round of the inner loop -/
theorem who_next {w W0 U2 V3 U3 U4 : World} {o : Obj} {bT bS n tb : Nat} {row : Option Nat} {mS2 mT' mS' : Int → Value} {AT AS LS2 LT2 : Int → List HoldD} {f : Nat → TrainD} {P : Nat → RowD} {gap : Int} {i k : Nat} {c : Obj}
    (hGr4 : Gr U4 (w.heap.size + 6) bS bT (n + 1 + 1) mS' mT' (updL (fun x => AS x ++ rowH (atStation f x) (holdS f P) i k) ((f i).leg k).to ⟨i, (P i).s k, leavesR (f i) (P i) k + 1⟩) (fun x => AT x ++ rowH (onTrack f x) (holdT gap f P) i (k + 1)))
    (hst4 : Stepped V3 (V3.alloc o) U3 U4 (w.heap.size + 6) bS row mS2 mT' mS' mT') (hG3 : Gr V3 (w.heap.size + 6) bS bT (n + 1) mS2 mT' LS2 LT2) (hB3 : Below U2.drew.heap.size U2.drew V3)
    (hfr2 : ∀ k, k < w.heap.size + 6 → k ≠ bT → k ≠ bS → U2.heap[k]? = W0.heap[k]?) (hTb2 : U2.heap[tb]? = some c) (hB2 : Below w.heap.size w U2) (hnoT : NoRow mS2 mT' tb) (_hs : w.heap.size + 6 ≤ U2.heap.size) (htb : tb < U2.heap.size) (htS : w.heap.size + 6 ≤ tb) (hbS : w.heap.size ≤ bS) :
    Gr U4 (w.heap.size + 6) bT bS (n + 1 + 1) mT' mS' (fun x => AT x ++ rowH (onTrack f x) (holdT gap f P) i (k + 1)) (fun x => AS x ++ rowH (atStation f x) (holdS f P) i (k + 1)) ∧
    (∀ k, k < w.heap.size + 6 → k ≠ bT → k ≠ bS → U4.heap[k]? = W0.heap[k]?) ∧ Below w.heap.size w U4 ∧ U4.heap[tb]? = some c ∧ NoRow mT' mS' tb := by
  have e : (⟨i, (P i).s k, leavesR (f i) (P i) k + 1⟩ : HoldD) = holdS f P i k := rfl
  rw [e, updL_row (fun x => atStation f x) (holdS f P) AS i k ((f i).leg k).to (fun x => by simp only [atStation, decide_eq_true_eq]; exact eq_comm)] at hGr4
  have hs3 := hB3.size
  have hd : U2.drew.heap.size = U2.heap.size := rfl
  have hlt := hGr4.swap.ltS
  refine ⟨hGr4.swap, fun q h0 h1 h2 => ?_, hst4.below (Below.join hB2.drew (Nat.le_refl _) hB3) (Nat.le_refl _) (by omega) hbS, ?_, (hst4.no tb (by omega) hnoT).swap⟩
  · exact (hst4.same2 q (by omega) (hG3.noRow_low h0) h2).trans ((hB3.block q (by omega)).trans (hfr2 q h0 h1 h2))
  · exact (hst4.same2 tb (by omega) hnoT (by omega)).trans ((hB3.block tb (by omega)).trans hTb2)

set_option maxRecDepth 20000 in
set_option maxHeartbeats 16000000 in
theorem whoHas_any (a : Option Addr) (len cap : Nat) (g : Nat → Int) (gap : Int) (a' : Option Addr) (np cap' : Nat) (f : Nat → TrainD) (c : Option Addr) (nc : Nat) (P : Nat → RowD) (w : World)
    (hR : RightL len np f) (hG : RightG len g gap np f) (hQ : RightP np f np P) (hT : IsTrains 0 w.heap.size w a' np f) (hP : IsRows 0 w.heap.size w c np P) :
    Calls Tryz.prog 23 #[.agg #[.slice a len cap, .int .i64 gap, .slice a' np cap'], .agg #[.slice c np nc]] w fun e w' => (∃ b0 bT bS mT mS, e = .returned (.agg #[.slice a' np cap', .slice c np nc, .slice a len cap, .map (some bT), .map (some bS)]) ∧ Gr w' b0 bT bS 20 mT mS (listT gap np f P) (listS np f P)) ∧ Below w.heap.size w w' := by
  have hmm := @run_makeMap Tryz.prog
  have hW0 := whoStart w a len cap gap a' np cap' c nc
  have htr := hR.tr
  have hg0 := hG.g0
  have hg1 := hG.g1
  have hlegs := hG.legs
  go_enter Tryz.func23, Tryz.ntmps23
  go_wp2
  clear hmm
  refine nameW fun W0 hE => ?_
  rw [← hE] at hW0
  clear hE
  go_loopw [24] (fun ii wr => ∃ (i : Nat) (mT mS : Int → Value), i ≤ np ∧ ii = .int .i64 i ∧ Gr wr (w.heap.size + 6) (w.heap.size + 1 + 1 + 1) (w.heap.size + 1 + 1 + 1 + 1) (2 * legSum f i) mT mS (fun x => allH (onTrack f x) (holdT gap f P) (fun j => (f j).nl) i) (fun x => allH (atStation f x) (holdS f P) (fun j => (f j).nl) i)
    ∧ (∀ k, k < w.heap.size + 6 → k ≠ w.heap.size + 1 + 1 + 1 → k ≠ w.heap.size + 1 + 1 + 1 + 1 → wr.heap[k]? = W0.heap[k]?) ∧ Below w.heap.size w wr) (fun ii _ => np - (intOf ii).toNat)
  case atStart => exact ⟨0, _, _, Nat.zero_le _, rfl, hW0.gr, fun _ _ _ _ => rfl, hW0.b⟩
  case round =>
    obtain ⟨i, mT, mS, hi, rfl, hGr, hfr, hB⟩ := hrel
    by_cases hlt : i < np
    · obtain ⟨b, off, la, lc, rfl, _, hb, t0, t1, t2, t3, t4, hlg, _⟩ := hT i hlt
      have hRi := hR.train i hlt
      have hnl := hRi.nl
      have hin' : (i : Int) < (np : Int) := by omega
      replace t0 := cellLater hB t0
      replace t1 := cellLater hB t1
      replace t2 := cellLater hB t2
      replace t3 := cellLater hB t3
      replace t4 := cellLater hB t4
      have hN := b1 wr (.cells #[.int .i64 (f i).frm, .int .i64 (f i).ready, .int .i64 (f i).due, .int .i64 (f i).weight, .slice la (f i).nl lc] 72)
      have hTb := Go.heap_alloc_new wr (.cells #[.int .i64 (f i).frm, .int .i64 (f i).ready, .int .i64 (f i).due, .int .i64 (f i).weight, .slice la (f i).nl lc] 72)
      go_wp2
      refine nameW fun V1 hE => ?_
      rw [← hE] at hN hTb
      have hsz : V1.heap.size = wr.heap.size + 1 := by rw [hE]; simp
      clear hE t0 t1 t2 t3 t4
      have hno := hGr.noRow_new (Nat.le_refl _)
      have hb0o := hGr.sz
      replace hGr := hGr.later hN
      replace hfr : ∀ k, k < w.heap.size + 6 → k ≠ w.heap.size + 1 + 1 + 1 → k ≠ w.heap.size + 1 + 1 + 1 + 1 → V1.heap[k]? = W0.heap[k]? := fun k h0 h1 h2 => (hN.block k (by omega)).trans (hfr k h0 h1 h2)
      replace hB := Below.join hB (Nat.le_refl _) hN
      clear hN
      have htb : wr.heap.size < V1.heap.size := by omega
      clear hsz
      generalize wr.heap.size = tb at hTb hno hb0o htb ⊢
      go_loopw [32] (fun kk wr2 => ∃ (k : Nat) (mT mS : Int → Value), k ≤ (f i).nl ∧ kk = .int .i64 k ∧ Gr wr2 (w.heap.size + 6) (w.heap.size + 1 + 1 + 1) (w.heap.size + 1 + 1 + 1 + 1) (2 * (legSum f i + k)) mT mS (fun x => allH (onTrack f x) (holdT gap f P) (fun j => (f j).nl) i ++ rowH (onTrack f x) (holdT gap f P) i k) (fun x => allH (atStation f x) (holdS f P) (fun j => (f j).nl) i ++ rowH (atStation f x) (holdS f P) i k)
        ∧ (∀ k, k < w.heap.size + 6 → k ≠ w.heap.size + 1 + 1 + 1 → k ≠ w.heap.size + 1 + 1 + 1 + 1 → wr2.heap[k]? = W0.heap[k]?) ∧ Below w.heap.size w wr2 ∧ wr2.heap[tb]? = some (.cells #[.int .i64 (f i).frm, .int .i64 (f i).ready, .int .i64 (f i).due, .int .i64 (f i).weight, .slice la (f i).nl lc] 72 (0, 0)) ∧ NoRow mT mS tb) (fun kk _ => (f i).nl - (intOf kk).toNat)
      case atStart => exact ⟨0, mT, mS, Nat.zero_le _, rfl, (by simpa [rowH] using hGr), hfr, hB, hTb, hno⟩
      case round =>
        clear hGr hfr hB hTb hno htb
        obtain ⟨k, mT2, mS2, hk, rfl, hGr, hfr, hB, hTb, hno⟩ := hrel
        by_cases hlt2 : k < (f i).nl
        · have hkn : (k : Int) < ((f i).nl : Int) := by omega
          have hk0 : (0 : Int) ≤ (k : Int) := by omega
          have hi0 : (0 : Int) ≤ (i : Int) := by omega
          obtain ⟨l0, l1, l2, l3⟩ := hRi.leg k hlt2
          obtain ⟨s0, s1⟩ := hQ.at0 i hlt k hlt2
          obtain ⟨x0, x1⟩ := trackOf_bd hR hG hlt hlt2
          obtain ⟨x2, x3⟩ := hR.to i hlt k hlt2
          have hst := hR.st
          have hsum := legSum_at (f := f) hlt
          have hb0 := hGr.sz
          have hW6 := hW0.sz
          obtain ⟨bl, ol, rfl, _, hbl, g0, g1, g2⟩ := hlg k hlt2
          obtain ⟨bp, op, lp, lpc, rfl, _, hbp, p0, hin, _⟩ := hP i hlt
          rw [hQ.row i hlt] at p0 hin
          obtain ⟨bi, oi, rfl, _, hbi, q0⟩ := hin k hlt2
          replace g0 := cellLater hB g0
          replace g1 := cellLater hB g1
          replace g2 := cellLater hB g2
          replace p0 := cellLater hB p0
          replace q0 := cellLater hB q0
          have y1 : wr.cell? ⟨w.heap.size, 1, none⟩ = some (.int .i64 gap) := (World.cell?_of_block (a := ⟨w.heap.size, 1, none⟩) (hfr w.heap.size (by omega) (by omega) (by omega))).trans hW0.l1
          have y2 : wr.cell? ⟨w.heap.size + 1, 0, none⟩ = some (.slice (some ⟨bp, op, none⟩) np nc) := (World.cell?_of_block (a := ⟨w.heap.size + 1, 0, none⟩) (hfr (w.heap.size + 1) (by omega) (by omega) (by omega))).trans hW0.p0
          obtain ⟨⟨_, _, _, y3, y4⟩, _⟩ := box5 ((hfr (w.heap.size + 1 + 1 + 1 + 1 + 1) (by omega) (by omega) (by omega)).trans hW0.h)
          obtain ⟨⟨e0, e1, e2, e3, e4⟩, _⟩ := box5 hTb
          have hN := b1 wr (.cells #[.int .i64 ((f i).leg k).to, .int .i64 ((f i).leg k).run, .int .i64 ((f i).leg k).stay] 74)
          have hLg := hlg.grow (Below.join hB (Nat.le_refl _) hN)
          have lt1 : w.heap.size + 1 < wr.heap.size := by omega
          have ltb := ltCell e0
          have ltp := ltCell p0
          have ltq := ltCell q0
          dsimp only at ltb ltp ltq
          go_wp2_with (go_at_call 57; refine (trackOf_any (f i) k _ _ _ hlt2 hnl hLg).mono ?_; rintro _ V ⟨rfl, hBV⟩)
          clear lt1 ltp ltq g0 g1 g2
          have hL := (new3 wr (.int .i64 ((f i).leg k).to) (.int .i64 ((f i).leg k).run) (.int .i64 ((f i).leg k).stay) 74)
          have v0 := cellLater hBV hL.1
          have v1 := cellLater hBV hL.2.1
          have hnl2 := hGr.noRow_new (Nat.le_refl _)
          replace hN := Below.join hN (Nat.le_refl _) hBV
          have hwrV : wr.heap.size < V.heap.size := ltCell v0
          clear hL hBV hLg
          replace y1 := cellLater hN y1
          replace y2 := cellLater hN y2
          replace y3 := cellLater hN y3
          replace y4 := cellLater hN y4
          replace e0 := cellLater hN e0
          replace e1 := cellLater hN e1
          replace e2 := cellLater hN e2
          replace e3 := cellLater hN e3
          replace e4 := cellLater hN e4
          replace p0 := cellLater hN p0
          replace hTb := (hN.block _ ltb).trans hTb
          replace hfr : ∀ k, k < w.heap.size + 6 → k ≠ w.heap.size + 1 + 1 + 1 → k ≠ w.heap.size + 1 + 1 + 1 + 1 → V.heap[k]? = W0.heap[k]? := fun k h0 h1 h2 => (hN.block k (by omega)).trans (hfr k h0 h1 h2)
          replace hB := Below.join hB (Nat.le_refl _) hN
          replace hGr := hGr.later (Below.join hN (Nat.le_refl _) (Below.refl _ _).drew)
          clear hN q0
          have hlenT : ∀ x, (allH (onTrack f x) (holdT gap f P) (fun j => (f j).nl) i ++ rowH (onTrack f x) (holdT gap f P) i k).length ≤ 1000 := fun x => by
            have h1 := allH_len (p := onTrack f x) (hd := holdT gap f P) f i
            have h2 := rowH_len (p := onTrack f x) (hd := holdT gap f P) i k
            rw [List.length_append]; omega
          have hlenS : ∀ x, (allH (atStation f x) (holdS f P) (fun j => (f j).nl) i ++ rowH (atStation f x) (holdS f P) i k).length ≤ 1000 := fun x => by
            have h1 := allH_len (p := atStation f x) (hd := holdS f P) f i
            have h2 := rowH_len (p := atStation f x) (hd := holdS f P) i k
            rw [List.length_append]; omega
          obtain ⟨vT, U1, U2, hap, hup, hGr2, hst2⟩ := hGr.stepT (trackOf (f i) k) (wf_small x0 x1) (holdT gap f P i k) (by omega) (hlenT _)
          rw [updL_row (fun x => onTrack f x) (holdT gap f P) _ i k (trackOf (f i) k) (fun x => by simp only [onTrack, decide_eq_true_eq]; exact eq_comm)] at hGr2
          simp only [holdT] at hap hst2
          have hlk0 := hGr.kT.lookup Tryz.underlying3 Tryz.underlying60 (Tryz.zeroHolds _) (wf_small x0 x1)
          have hap1 : (Builtin.append_ #[76, 76] 76 #[mT2 (trackOf (f i) k), .slice (some ⟨V.heap.size, 0, none⟩) 1 1]).run Tryz.prog (V.alloc (.cells #[.int .i64 i, .int .i64 ((P i).s k), .int .i64 ((P i).s k + ((f i).leg k).run + gap)] 78)).drew = .ok vT U1 := hap
          clear hap
          have hlk1 : (Instr.lookup 60 (.map (some (w.heap.size + 1 + 1 + 1))) (.int .i64 (trackOf (f i) k)) false).run Tryz.prog (V.alloc (.cells #[.int .i64 i, .int .i64 ((P i).s k), .int .i64 ((P i).s k + ((f i).leg k).run + gap)] 78)).drew = .ok (mT2 (trackOf (f i) k)) (V.alloc (.cells #[.int .i64 i, .int .i64 ((P i).s k), .int .i64 ((P i).s k + ((f i).leg k).run + gap)] 78)).drew := (hGr.kT.later (b1 V.drew (.cells #[.int .i64 i, .int .i64 ((P i).s k), .int .i64 ((P i).s k + ((f i).leg k).run + gap)] 78))).lookup Tryz.underlying3 Tryz.underlying60 (Tryz.zeroHolds _) (wf_small x0 x1)
          have hw1 : IntKind.i64.wrap ((P i).s k + ((f i).leg k).run) = (P i).s k + ((f i).leg k).run := by rw [IntKind.wrap_i64]; omega
          have hw2 : IntKind.i64.wrap ((P i).s k + ((f i).leg k).run + gap) = (P i).s k + ((f i).leg k).run + gap := by rw [IntKind.wrap_i64]; omega
          have hno1 := hGr.noRow_low (k := w.heap.size) (by omega)
          have hno2 := hGr.noRow_low (k := w.heap.size + 1) (by omega)
          have hno5 := hGr.noRow_low (k := w.heap.size + 1 + 1 + 1 + 1 + 1) (by omega)
          have hA1 := b1 V.drew (.cells #[.int .i64 i, .int .i64 ((P i).s k), .int .i64 ((P i).s k + ((f i).leg k).run + gap)] 78)
          have hS0 : V.drew.cell? ⟨w.heap.size + 1 + 1 + 1 + 1 + 1, 3, none⟩ = some (.map (some (w.heap.size + 1 + 1 + 1))) ∧ V.drew.cell? ⟨wr.heap.size, 1, none⟩ = some (.int .i64 ((f i).leg k).run) ∧ V.drew.cell? ⟨w.heap.size, 1, none⟩ = some (.int .i64 gap) := ⟨y3, v1, y1⟩
          have hSa := And.intro (cellLater hA1 hS0.1) (And.intro (cellLater hA1 hS0.2.1) (cellLater hA1 hS0.2.2))
          have hS1 := And.intro (hst2.cell1 hS0.1 hno5) (And.intro (hst2.cell1 hS0.2.1 hnl2) (hst2.cell1 hS0.2.2 hno1))
          have hS2 := And.intro (hst2.cell2 hS0.1 hno5 (by omega)) (And.intro (hst2.cell2 hS0.2.1 hnl2 (by omega)) (hst2.cell2 hS0.2.2 hno1 (by omega)))
          go_region_held3 (fun w' => w'.cell? ⟨w.heap.size + 1 + 1 + 1 + 1 + 1, 3, none⟩ = some (.map (some (w.heap.size + 1 + 1 + 1))) ∧ w'.cell? ⟨wr.heap.size, 1, none⟩ = some (.int .i64 ((f i).leg k).run) ∧ w'.cell? ⟨w.heap.size, 1, none⟩ = some (.int .i64 gap)) (first | exact hS0 | exact hSa | exact hS1 | exact hS2) ((refine step_append_eq _ (by rfl) _ _ _ (by rfl) _ _ _ _ (by rfl) (by rfl) hap1 ?_))
          all_goals
            clear hS0 hSa hS1 hS2 hlk0 hlk1 hap1 hup hw1 hw2 hA1
            have hVd : V.drew.heap.size = V.heap.size := rfl
            have hB2 := hst2.below (B := w.heap.size) hB.drew (Nat.le_refl _) (by omega) (by omega)
            have hnoT := (hst2.no tb (by omega) hno).swap
            have hnoL := (hst2.no wr.heap.size (by omega) hnl2).swap
            have z4 := hst2.cell2 (W := V.drew) y4 hno5 (by omega)
            have z2 := hst2.cell2 (W := V.drew) y2 hno2 (by omega)
            have zv := hst2.cell2 (W := V.drew) v0 hnl2 (by omega)
            have t0 := hst2.cell2 (W := V.drew) e0 hno (by omega)
            have t1 := hst2.cell2 (W := V.drew) e1 hno (by omega)
            have t2 := hst2.cell2 (W := V.drew) e2 hno (by omega)
            have t3 := hst2.cell2 (W := V.drew) e3 hno (by omega)
            have t4 := hst2.cell2 (W := V.drew) e4 hno (by omega)
            have zp := hst2.cell2 (W := V.drew) p0 (hGr.noRow_low (by omega)) (by omega)
            have hfr2 : ∀ k, k < w.heap.size + 6 → k ≠ w.heap.size + 1 + 1 + 1 → k ≠ w.heap.size + 1 + 1 + 1 + 1 → U2.heap[k]? = W0.heap[k]? := fun k h0 h1 h2 => (hst2.same2 k (by omega) (hGr.noRow_low h0) h1).trans (hfr k h0 h1 h2)
            have hTb2 := (hst2.same2 tb (by omega) hno (by omega)).trans hTb
            have hsz2 := hst2.sz
            clear hst2 hGr hfr hTb hno hnl2 hno1 hno2 hno5 y1 y2 y3 y4 v0 v1 e0 e1 e2 e3 e4 p0 hB
            have hGS := hGr2.swap.later (Below.refl _ _).drew
            have hLgU := hlg.grow hB2.drew
            have hInU := hin.grow hB2.drew
            have hlkA := hGS.kT.lookup Tryz.underlying3 Tryz.underlying60 (Tryz.zeroHolds _) (x := ((f i).leg k).to) (wf_small x2 (by omega))
            obtain ⟨lv0, lv1⟩ := leavesR_bd hR hQ hlt hlt2
            have hw3 : IntKind.i64.wrap (leavesR (f i) (P i) k + 1) = leavesR (f i) (P i) k + 1 := by rw [IntKind.wrap_i64]; omega
            have hS0 : U2.drew.cell? ⟨w.heap.size + 1 + 1 + 1 + 1 + 1, 4, none⟩ = some (.map (some (w.heap.size + 1 + 1 + 1 + 1))) ∧ U2.drew.cell? ⟨wr.heap.size, 0, none⟩ = some (.int .i64 ((f i).leg k).to) ∧ U2.drew.cell? ⟨tb, 0, none⟩ = some (.int .i64 (f i).frm) ∧ U2.drew.cell? ⟨tb, 1, none⟩ = some (.int .i64 (f i).ready) ∧ U2.drew.cell? ⟨tb, 2, none⟩ = some (.int .i64 (f i).due) ∧ U2.drew.cell? ⟨tb, 3, none⟩ = some (.int .i64 (f i).weight) ∧ U2.drew.cell? ⟨tb, 4, none⟩ = some (.slice (some ⟨bl, ol, none⟩) (f i).nl lc) ∧ U2.drew.cell? ⟨w.heap.size + 1, 0, none⟩ = some (.slice (some ⟨bp, op, none⟩) np nc) ∧ U2.drew.cell? ⟨bp, op + i, none⟩ = some (.slice (some ⟨bi, oi, none⟩) (f i).nl lpc) := ⟨z4, zv, t0, t1, t2, t3, t4, z2, zp⟩
            go_wp2
            go_region_held3 (fun w' => w'.cell? ⟨w.heap.size + 1 + 1 + 1 + 1 + 1, 4, none⟩ = some (.map (some (w.heap.size + 1 + 1 + 1 + 1))) ∧ w'.cell? ⟨wr.heap.size, 0, none⟩ = some (.int .i64 ((f i).leg k).to) ∧ w'.cell? ⟨tb, 0, none⟩ = some (.int .i64 (f i).frm) ∧ w'.cell? ⟨tb, 1, none⟩ = some (.int .i64 (f i).ready) ∧ w'.cell? ⟨tb, 2, none⟩ = some (.int .i64 (f i).due) ∧ w'.cell? ⟨tb, 3, none⟩ = some (.int .i64 (f i).weight) ∧ w'.cell? ⟨tb, 4, none⟩ = some (.slice (some ⟨bl, ol, none⟩) (f i).nl lc) ∧ w'.cell? ⟨w.heap.size + 1, 0, none⟩ = some (.slice (some ⟨bp, op, none⟩) np nc) ∧ w'.cell? ⟨bp, op + i, none⟩ = some (.slice (some ⟨bi, oi, none⟩) (f i).nl lpc)) (first | exact hS0 | exact hSv | exact hSa | exact hS1 | exact hS2) ((first | (go_at_call 58; refine (leaves_any (f i) (P i) k _ _ _ _ _ hlt2 hRi (hQ.row i hlt) (fun k hk => hQ.at0 i hlt k hk) hLgU hInU).mono ?_; rintro _ V3 ⟨rfl, hB3⟩; have hG3 := hGS.later hB3; obtain ⟨vS, U3, U4, hap, hup2, hGr4, hst4⟩ := hG3.stepT ((f i).leg k).to (wf_small x2 (by omega)) ⟨i, (P i).s k, leavesR (f i) (P i) k + 1⟩ (by omega) (hlenS _); dsimp only at hap hst4; have hlkB := hG3.kT.lookup Tryz.underlying3 Tryz.underlying60 (Tryz.zeroHolds _) (x := ((f i).leg k).to) (wf_small x2 (by omega)); have hlkC := (hG3.kT.later (b1 V3 (.cells #[.int .i64 i, .int .i64 ((P i).s k), .int .i64 (leavesR (f i) (P i) k + 1)] 78))).lookup Tryz.underlying3 Tryz.underlying60 (Tryz.zeroHolds _) (x := ((f i).leg k).to) (wf_small x2 (by omega)); have hA3 := b1 V3 (.cells #[.int .i64 i, .int .i64 ((P i).s k), .int .i64 (leavesR (f i) (P i) k + 1)] 78); have hSv := And.intro (cellLater hB3 hS0.1) (And.intro (cellLater hB3 hS0.2.1) (And.intro (cellLater hB3 hS0.2.2.1) (And.intro (cellLater hB3 hS0.2.2.2.1) (And.intro (cellLater hB3 hS0.2.2.2.2.1) (And.intro (cellLater hB3 hS0.2.2.2.2.2.1) (And.intro (cellLater hB3 hS0.2.2.2.2.2.2.1) (And.intro (cellLater hB3 hS0.2.2.2.2.2.2.2.1) (cellLater hB3 hS0.2.2.2.2.2.2.2.2)))))))); have hSa := And.intro (cellLater hA3 hSv.1) (And.intro (cellLater hA3 hSv.2.1) (And.intro (cellLater hA3 hSv.2.2.1) (And.intro (cellLater hA3 hSv.2.2.2.1) (And.intro (cellLater hA3 hSv.2.2.2.2.1) (And.intro (cellLater hA3 hSv.2.2.2.2.2.1) (And.intro (cellLater hA3 hSv.2.2.2.2.2.2.1) (And.intro (cellLater hA3 hSv.2.2.2.2.2.2.2.1) (cellLater hA3 hSv.2.2.2.2.2.2.2.2)))))))); have hm5 := hG3.noRow_low (k := w.heap.size + 1 + 1 + 1 + 1 + 1) (by omega); have hm1 := hG3.noRow_low (k := w.heap.size + 1) (by omega); have hmp := hG3.noRow_low (k := bp) (by omega); have hS1 := And.intro (hst4.cell1 hSv.1 hm5) (And.intro (hst4.cell1 hSv.2.1 hnoL) (And.intro (hst4.cell1 hSv.2.2.1 hnoT) (And.intro (hst4.cell1 hSv.2.2.2.1 hnoT) (And.intro (hst4.cell1 hSv.2.2.2.2.1 hnoT) (And.intro (hst4.cell1 hSv.2.2.2.2.2.1 hnoT) (And.intro (hst4.cell1 hSv.2.2.2.2.2.2.1 hnoT) (And.intro (hst4.cell1 hSv.2.2.2.2.2.2.2.1 hm1) (hst4.cell1 hSv.2.2.2.2.2.2.2.2 hmp)))))))); have hS2 := And.intro (hst4.cell2 hSv.1 hm5 (by omega)) (And.intro (hst4.cell2 hSv.2.1 hnoL (by omega)) (And.intro (hst4.cell2 hSv.2.2.1 hnoT (by omega)) (And.intro (hst4.cell2 hSv.2.2.2.1 hnoT (by omega)) (And.intro (hst4.cell2 hSv.2.2.2.2.1 hnoT (by omega)) (And.intro (hst4.cell2 hSv.2.2.2.2.2.1 hnoT (by omega)) (And.intro (hst4.cell2 hSv.2.2.2.2.2.2.1 hnoT (by omega)) (And.intro (hst4.cell2 hSv.2.2.2.2.2.2.2.1 hm1 (by omega)) (hst4.cell2 hSv.2.2.2.2.2.2.2.2 hmp (by omega)))))))))) | (refine step_append_eq _ (by rfl) _ _ _ (by rfl) _ _ _ _ (by rfl) (by rfl) hap ?_)))
            all_goals
              go_wp2
              obtain ⟨r1, r2, r3, r4, r5⟩ := who_next (n := 2 * (legSum f i + k)) hGr4 hst4 hG3 hB3 hfr2 hTb2 hB2 hnoT (by omega) (by omega) hb0o (by omega)
              go_roundw
              case rel => exact ⟨k + 1, _, _, by omega, by go_num, r1.mono (by omega), r2, r3, r4, r5⟩
              case measure => simp [intOf]; omega
        · have hke : Hid (k = (f i).nl) := (by omega : k = (f i).nl)
          have hkn : ((f i).nl : Int) ≤ (k : Int) := by omega
          clear hlt2 hk
          go_wp2
          go_roundw
          case rel => exact ⟨i + 1, mT2, mS2, by omega, by go_num, (by rw [hke.out] at hGr; simpa only [allH, legSum] using hGr), hfr, hB⟩
          case measure => simp [intOf]; omega
    · have hie : Hid (i = np) := (by omega : i = np)
      have hin' : (np : Int) ≤ (i : Int) := by omega
      clear hlt hi
      have hb0 := hGr.sz
      obtain ⟨⟨h0, h1, h2, h3, h4⟩, _⟩ := box5 ((hfr (w.heap.size + 1 + 1 + 1 + 1 + 1) (by omega) (by omega) (by omega)).trans hW0.h)
      obtain ⟨⟨r0, r1, r2, r3, r4⟩, z0, z1, z2, z3, z4⟩ := box5 ((hfr (w.heap.size + 1 + 1) (by omega) (by omega) (by omega)).trans hW0.r)
      go_wp2
      rw [hie.out] at hGr
      refine bodyPost_ret (v := .agg #[.slice a' np cap', .slice c np nc, .slice a len cap, .map (some (w.heap.size + 1 + 1 + 1)), .map (some (w.heap.size + 1 + 1 + 1 + 1))]) (by simp [results, Tryz.results23, go_sem, r0, r1, r2, r3, r4]) rfl ⟨⟨_, _, _, mT, mS, rfl, ((((((hGr.mono (by omega)).set ?_ ?_ ?_).set ?_ ?_ ?_).set ?_ ?_ ?_).set ?_ ?_ ?_).set ?_ ?_ ?_)⟩, ?_⟩
      all_goals first | (simp; done) | (simp; omega) | skip
      exact (((((hB.setCell (p := ⟨w.heap.size + 1 + 1, _, none⟩) (by simp; omega) _).setCell (p := ⟨w.heap.size + 1 + 1, _, none⟩) (by simp; omega) _).setCell (p := ⟨w.heap.size + 1 + 1, _, none⟩) (by simp; omega) _).setCell (p := ⟨w.heap.size + 1 + 1, _, none⟩) (by simp; omega) _).setCell (p := ⟨w.heap.size + 1 + 1, _, none⟩) (by simp; omega) _)
end Go.Proofs.YtelickcfodcmaaaGreatDoor
