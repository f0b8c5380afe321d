/-
  The program's board: a train's next leg is begun.
  What a board means, as plain data: from step to step.
  The program's board: a train's next leg is placed.
  The program's board, new: what it is.
  The program's Place: what it answers.
  The program's Place at a line that is right: what it answers.
-/
import Derived.Test.YtnjaegeapcijpaaDoorGBoard
import Derived.Test.YtnjaegeapcijpaaDoorPlansC
import Derived.Deep.RegionLaw
import Derived.Deep.DeepCutAuto
import Derived.Maps.AppendAt
import Derived.Test.YtnjaegeapcijpaaDoorGPr
import Derived.Test.YtnjaegeapcijpaaDoorIsRight
namespace Go.Proofs.YtnjaegeapcijpaaDoor
open Go.RowKit

theorem LP.form {B0 : Nat} {W : World} {b gR : Nat} {a : Option Addr} {len cap : Nat} {gap : Int} {a' : Option Addr} {np cap' : Nat} {c : Option Addr} {nc : Nat} {v : Nat → Value} {P : Nat → RowD} {last : Int} (h : LP B0 W b gR a len cap gap a' np cap' c nc v P last) {i : Nat} (hi : i < np) : ∃ lp lpc, v i = .slice lp (P i).n lpc := by
  rcases (h.own i hi).2 with ⟨e0, h0⟩ | ⟨g, cp, cur, e0, _⟩
  · exact ⟨none, 0, by rw [e0, h0]⟩
  · exact ⟨_, _, e0⟩

/-- what a leg begun makes of those that are at the stations for ever -/
def stepE (f : Nat → TrainD) (P : Nat → RowD) (i : Nat) (E : Int → Int) : Int → Int :=
  if (P i).n + 1 < (f i).nl then enterE (if 0 < (P i).n then leaveE E ((f i).leg ((P i).n - 1)).to else E) ((f i).leg (P i).n).to
  else leaveE (enterE (if 0 < (P i).n then leaveE E ((f i).leg ((P i).n - 1)).to else E) ((f i).leg (P i).n).to) ((f i).leg (P i).n).to
/-- and of the ends -/
def stepL (f : Nat → TrainD) (P : Nat → RowD) (i : Nat) (t : Int) (L : Int → List Int) : Int → List Int :=
  if (P i).n + 1 < (f i).nl then (if 0 < (P i).n then leaveL L ((f i).leg ((P i).n - 1)).to t else L)
  else leaveL (if 0 < (P i).n then leaveL L ((f i).leg ((P i).n - 1)).to t else L) ((f i).leg (P i).n).to (t + ((f i).leg (P i).n).run)
structure Rl (R0 R : Int → RoomD) (E : Int → Int) (L : Int → List Int) (c : Nat) : Prop where
  e : ∀ x, (R x).E = E x
  p : ∀ x, (listE (R x)).Perm (L x)
  n : ∀ x, (R x).ne ≤ (R0 x).ne + c
theorem Rl.refl (R : Int → RoomD) : Rl R R (fun y => (R y).E) (fun y => listE (R y)) 0 := ⟨fun _ => rfl, fun _ => List.Perm.refl _, fun _ => Nat.le_refl _⟩
theorem Rl.mono {R0 R : Int → RoomD} {E : Int → Int} {L : Int → List Int} {c c' : Nat} (h : Rl R0 R E L c) (hc : c ≤ c') : Rl R0 R E L c' := ⟨h.e, h.p, fun x => by have := h.n x; omega⟩
theorem Rl.leave {R0 R : Int → RoomD} {E : Int → Int} {L : Int → List Int} {c : Nat} (h : Rl R0 R E L c) {q x : Int} {r : RoomD} (hE : r.E = (R q).E - 1) (hP : (listE r).Perm (x :: listE (R q))) (hn : r.ne = (R q).ne + 1) :
    Rl R0 (fun y => if y = q then r else R y) (leaveE E q) (leaveL L q x) (c + 1) := by
  refine ⟨fun y => ?_, fun y => ?_, fun y => ?_⟩
  · unfold leaveE
    by_cases e : y = q
    · subst e; simp only [if_pos]; rw [hE, h.e]
    · simp only [if_neg e]; exact h.e y
  · unfold leaveL
    by_cases e : y = q
    · subst e; simp only [if_pos]; exact hP.trans ((h.p y).cons x)
    · simp only [if_neg e]; exact h.p y
  · by_cases e : y = q
    · subst e; simp only [if_pos]; rw [hn]; have := h.n y; omega
    · simp only [if_neg e]; have := h.n y; omega
theorem Rl.enter {R0 R : Int → RoomD} {E : Int → Int} {L : Int → List Int} {c : Nat} (h : Rl R0 R E L c) {q : Int} {r : RoomD} (hE : r.E = (R q).E + 1) (hP : (listE r).Perm (listE (R q))) (hn : r.ne = (R q).ne) :
    Rl R0 (fun y => if y = q then r else R y) (enterE E q) L c := by
  refine ⟨fun y => ?_, fun y => ?_, fun y => ?_⟩
  · unfold enterE
    by_cases e : y = q
    · subst e; simp only [if_pos]; rw [hE, h.e]
    · simp only [if_neg e]; exact h.e y
  · by_cases e : y = q
    · subst e; simp only [if_pos]; exact hP.trans (h.p y)
    · simp only [if_neg e]; exact h.p y
  · by_cases e : y = q
    · subst e; simp only [if_pos]; rw [hn]; exact h.n y
    · simp only [if_neg e]; exact h.n y
theorem track_bd {len np : Nat} {g : Nat → Int} {gap : Int} {f : Nat → TrainD} (hR : RightL len np f) (hG : RightG len g gap np f) {i k : Nat} (hi : i < np) (hk : k < (f i).nl) : 0 ≤ trackOf (f i) k ∧ trackOf (f i) k ≤ 12 := by
  have hst := hR.st
  have h1 := hR.to i hi k hk
  have h2 : 0 ≤ cur (f i) k ∧ cur (f i) k < len := by
    cases k with
    | zero => exact hG.frm i hi
    | succ m => exact hR.to i hi m (by omega)
  unfold trackOf
  split <;> omega
theorem cellGrown {W W' : World} {row : Option Nat} {k o : Nat} {u : Value} (hg : W.grownBy W' row) (hne : some k ≠ row) (hc : W.cell? ⟨k, o, none⟩ = some u) : W'.cell? ⟨k, o, none⟩ = some u :=
  (World.cell?_of_block (w := W) (w' := W') (a := ⟨k, o, none⟩) (hg.block k (ltCell hc) hne)).trans hc
theorem cellBelow {W W' : World} {B k o : Nat} {u : Value} (hb : Below B W W') (hk : k < B) (hc : W.cell? ⟨k, o, none⟩ = some u) : W'.cell? ⟨k, o, none⟩ = some u := (hb.cell (p := ⟨k, o, none⟩) hk).trans hc

set_option maxRecDepth 20000 in
set_option maxHeartbeats 16000000 in
theorem begin_any (B0 b gR bT bS : Nat) (a : Option Addr) (len cap : Nat) (g : Nat → Int) (gap : Int) (a' : Option Addr) (np cap' nc : Nat) (f : Nat → TrainD) (v : Nat → Value) (P : Nat → RowD) (last : Int) (n : Nat) (T : Int → TrackD) (R : Int → RoomD) (i : Nat) (t : Int) (w : World)
    (hR : RightL len np f) (hG : RightG len g gap np f) (hi : i < np) (hk : (P i).n < (f i).nl) (ht0 : 0 ≤ t) (ht1 : t ≤ 600000)
    (hE0 : ∀ x, 0 ≤ (R x).E ∧ (R x).E ≤ 90) (hE1 : 0 < (P i).n → 1 ≤ (R ((f i).leg ((P i).n - 1)).to).E) (hne : ∀ x, (R x).ne ≤ 90) (hn9 : n ≤ 900) (hPn : ∀ j, j < np → (P j).n ≤ 10)
    (hB : Bd B0 w b gR bT bS a len cap gap a' np cap' nc v P last n T R) (hT : IsTrains 0 B0 w a' np f) :
    Calls Tryd.prog 35 #[.pointer (some ⟨b, 0, none⟩), .int .i64 i, .int .i64 t] w fun e w' => e = .returned (.tuple #[]) ∧ ∃ v' R' n', n' ≤ n + 4 ∧ Bd B0 w' b gR bT bS a len cap gap a' np cap' nc v' (moreP P i t) t n' (fun y => if y = trackOf (f i) (P i).n then ⟨i, t, t + ((f i).leg (P i).n).run + gap⟩ else T y) R' ∧ Rl R R' (stepE f P i (fun y => (R y).E)) (stepL f P i t (fun y => listE (R y))) 2 ∧ Below B0 w w' := by
  have htr := hR.tr
  have hRi := hR.train i hi
  have hnl := hRi.nl
  have hi' : (i : Int) < (np : Int) := by omega
  have hi0 : (0 : Int) ≤ (i : Int) := by omega
  obtain ⟨lp, lpc, hvf⟩ := hB.lp.form hi
  have x0 := hB.lp.l2.c0
  have x1 := hB.lp.l2.c1
  have x2 := hB.lp.l2.c2
  have x3 := hB.lp.l2.c3
  have hrow := (hB.lp.row i hi).2
  have r0 := hrow.1
  have rz := hrow.2
  rw [hvf] at r0
  obtain ⟨bt, ot, la, lc, rfl, _, hbt, t0, t1, t2, t3, t4, hlg, _⟩ := hT i hi
  have hA1 := b1 w (.cells #[.int .i64 (f i).frm, .int .i64 (f i).ready, .int .i64 (f i).due, .int .i64 (f i).weight, .slice la (f i).nl lc] 71)
  have hTb := Go.heap_alloc_new w (.cells #[.int .i64 (f i).frm, .int .i64 (f i).ready, .int .i64 (f i).due, .int .i64 (f i).weight, .slice la (f i).nl lc] 71)
  have lb := ltCell x3
  have lg := hB.gr
  dsimp only at lb
  go_enter Tryd.func35, Tryd.ntmps35
  go_wp2
  refine nameW fun V hV => ?_
  rw [← hV] at hA1 hTb
  have e0 := cell_of_row V w.heap.size 0 _ _ _ hTb
  have e1 := cell_of_row V w.heap.size 1 _ _ _ hTb
  have e2 := cell_of_row V w.heap.size 2 _ _ _ hTb
  have e3 := cell_of_row V w.heap.size 3 _ _ _ hTb
  have e4 := cell_of_row V w.heap.size 4 _ _ _ hTb
  simp at e0 e1 e2 e3 e4
  clear hV hTb t0 t1 t2 t3 t4 lb lg
  have hBV := hB.later hA1
  obtain ⟨i0, ii, iz0, iz1, iz2⟩ := info_parts Tryd.infoInt
  have lB0 := hBV.base
  have hA9 := Below.join (Below.refl V.heap.size V).drew (Nat.le_refl _) (b1 V.drew (.cells #[.int .i64 t] 3))
  have hLA := hBV.later hA9
  have hownA := hLA.lp.own i hi
  have hnl2 : (P i).n ≤ 10 := by omega
  obtain ⟨v', W1, hap, hown1, hgr1, _, hloc1⟩ := run_append_own_at (P := Tryd.prog) (V.drew.alloc (.cells #[.int .i64 t] 3)) B0 23 23 3 i0 _ 1 8 Tryd.underlying23 ii iz0 iz1 iz2 rfl (by decide) (v i) (P i).n (rowCells (P i)) hownA ⟨V.heap.size, 0, none⟩ 1 1 [.int .i64 t] rfl (fun jj u hj => by have h := cells1_lie (W := V.drew) (x := .int .i64 t) (t := 3) jj u hj; exact h) one1 (by unfold maxLen; omega) (by omega) (by simp; omega)
  obtain ⟨gn, cn, rfl⟩ := Joins.ownsRow_form hown1 (by omega)
  obtain ⟨hput, hputB⟩ := hBV.put hA9 hi hown1 hgr1 hloc1
  have lgA := hLA.gr
  have lbA := ltCell hLA.lp.l2.c4
  dsimp only at lbA
  have hgk := hgr1.block _ lgA (fun e => (hLA.lp.off i hi).2 e.symm)
  have hbk := hgr1.block _ lbA (fun e => (hLA.lp.off i hi).1 e.symm)
  have hvA := (hLA.lp.row i hi).2
  have y3 := hBV.lp.l2.c3
  have yv := (hBV.lp.row i hi).2.1
  have m0 := (World.cell?_of_block (w' := W1) (a := ⟨gR, i, none⟩) hgk).trans hvA.1
  have mz := (World.frozen?_of_block (w' := W1) (a := ⟨gR, i, none⟩) hgk).trans hvA.2
  have m4 := (World.cell?_of_block (w' := W1) (a := ⟨b, 4, none⟩) hbk).trans hLA.lp.l2.c4
  have m3 := (World.cell?_of_block (w' := W1) (a := ⟨b, 3, none⟩) hbk).trans hLA.lp.l2.c3
  have mz4 := (World.frozen?_of_block (w' := W1) (a := ⟨b, 4, none⟩) hbk).trans hLA.lp.z4
  have hneb := hLA.lp.ne
  rw [hvf] at yv hap m0
  have hap' : Hid _ := hap
  have lg9 := hBV.gr
  have lb9 := ltCell y3
  dsimp only at lb9
  have hvX : (v i).ownBlock ≠ some w.heap.size := fun e => by have := ((hB.lp.own i hi).lt _ e).2; omega
  have hXb : w.heap.size ≠ b := by have := ltCell hB.lp.l2.c3; dsimp only at this; omega
  have hXg : w.heap.size ≠ gR := by have := hB.gr; omega
  have hAc : ∀ o u, V.cell? ⟨w.heap.size, o, none⟩ = some u → ((W1.setCell ⟨gR, i, none⟩ (.slice (some ⟨gn, 0, none⟩) ((P i).n + 1) cn)).setCell ⟨b, 4, none⟩ (.int .i64 t)).cell? ⟨w.heap.size, o, none⟩ = some u := fun o u hu => by
    rw [World.cell?_setCell_other _ _ _ _ (by intro e; cases e; exact hXb rfl), World.cell?_setCell_other _ _ _ _ (by intro e; cases e; exact hXg rfl)]
    exact cellGrown hgr1 (fun e => hvX e.symm) (cellLater hA9 hu)
  clear hap hown1 hgr1 hloc1 hgk hbk hvA hrow r0 rz x0 x1 x2 x3
  go_cut [7] (fun v wc => v = .int .i64 (P i).n ∧ wc = W1.setCell ⟨gR, i, none⟩ (.slice (some ⟨gn, 0, none⟩) ((P i).n + 1) cn))
  case first =>
    go_region_law (refine step_append_eq _ (by rfl) _ _ _ (by rfl) _ _ _ _ (by rfl) (by rfl) hap'.out ?_)
    all_goals
      go_wp2
      go_meet
      case rel => exact ⟨rfl, rfl⟩
  case rest =>
    obtain ⟨rfl, hwc⟩ := hcut
    subst hwc
    clear hap' y3 yv
    go_wp2
    refine nameW fun W4 hW4 => ?_
    rw [← hW4] at hput hputB hAc
    clear hW4 m0 mz m4 m3 mz4
    have d0 := hAc 0 _ e0
    have d1 := hAc 1 _ e1
    have d2 := hAc 2 _ e2
    have d3 := hAc 3 _ e3
    have d4 := hAc 4 _ e4
    have hb4 : Below B0 w W4 := (hA1.mono hB.base).trans hputB
    have hbase4 := hput.base
    have hlg4 : IsLegs 0 W4.heap.size W4 la (f i).nl (f i).leg := (hlg.below hb4 (Nat.le_refl _)).mono (Nat.le_refl 0) hbase4
    have hDr : Below W4.heap.size W4 W4.drew := (Below.refl _ _).drew
    have hTk := trackOf_any (f i) (P i).n la lc W4.drew hk hnl (hlg4.grow hDr)
    obtain ⟨bl, ol, rfl, _, hbl, g0, g1, g2⟩ := hlg (P i).n hk
    have q0 := cellBelow hb4 hbl g0
    have q1 := cellBelow hb4 hbl g1
    have q5 := hput.c5
    have qg := hput.lp.l2.c1
    obtain ⟨r0, r1, r2, r3⟩ := hRi.leg (P i).n hk
    have gp0 := hG.g0
    have gp1 := hG.g1
    have hk0 : (0 : Int) ≤ ((P i).n : Int) := by omega
    have hk' : ((P i).n : Int) < ((f i).nl : Int) := by omega
    have hw1 : IntKind.i64.wrap (t + ((f i).leg (P i).n).run) = t + ((f i).leg (P i).n).run := by rw [IntKind.wrap_i64]; omega
    have hw2 : IntKind.i64.wrap (t + ((f i).leg (P i).n).run + gap) = t + ((f i).leg (P i).n).run + gap := by rw [IntKind.wrap_i64]; omega
    have htkb := track_bd hR hG hi hk
    have hwf := wf_small (x := trackOf (f i) (P i).n) (by omega) (by omega)
    have hXT : (some w.heap.size : Option Nat) ≠ some bT := fun e => by have := hB.kT.lt; injection e with e; omega
    have hbT : (some b : Option Nat) ≠ some bT := fun e => hB.dist.1 (by injection e)
    have hlT : (some bl : Option Nat) ≠ some bT := fun e => by have := hB.lo.1; injection e with e; omega
    clear hA1 hA9 hLA hownA hBV e0 e1 e2 e3 e4 hAc lgA lbA hneb lg9 lb9 hvX
    go_region_held3 (fun w' => w'.cell? ⟨w.heap.size, 0, none⟩ = some (.int .i64 (f i).frm) ∧ w'.cell? ⟨w.heap.size, 1, none⟩ = some (.int .i64 (f i).ready) ∧ w'.cell? ⟨w.heap.size, 2, none⟩ = some (.int .i64 (f i).due) ∧ w'.cell? ⟨w.heap.size, 3, none⟩ = some (.int .i64 (f i).weight) ∧ w'.cell? ⟨w.heap.size, 4, none⟩ = some (.slice (some ⟨bl, ol, none⟩) (f i).nl lc) ∧ w'.cell? ⟨b, 5, none⟩ = some (.map (some bT)) ∧ w'.cell? ⟨b, 1, none⟩ = some (.int .i64 gap) ∧ w'.cell? ⟨bl, ol + (P i).n * 3 + 1, none⟩ = some (.int .i64 ((f i).leg (P i).n).run)) (first | go_keep | (go_split_ands; refine ⟨?_, ?_, ?_, ?_, ?_, ?_, ?_, ?_⟩ <;> exact cellLater hB5 (by assumption)) | (go_split_ands; refine ⟨?_, ?_, ?_, ?_, ?_, ?_, ?_, ?_⟩ <;> exact cellGrown hgr6 (by assumption) (by assumption))) ((go_at_call 33; refine hTk.mono ?_; rintro _ w5 ⟨rfl, hB5⟩; obtain ⟨W6, hup, hK6, hgr6⟩ := ((hput.kT.later hDr).later hB5).update Tryd.underlying3 Tryd.underlying51 (by unfold maxLen; omega) hwf (.agg #[.int .i64 i, .int .i64 t, .int .i64 (t + ((f i).leg (P i).n).run + gap)])))
    obtain ⟨hB6, hbl6⟩ := ((hput.later hDr).later hB5).track (x := trackOf (f i) (P i).n) (t := ⟨i, t, t + ((f i).leg (P i).n).run + gap⟩) hgr6 hK6
    have hBW6 : Below B0 w W6 := (hb4.trans ((hDr.mono hbase4).trans (hB5.mono hbase4))).trans hbl6
    have hNX : NoR R w.heap.size := fun y e => by have := ((hB.own y).lt _ e).2; omega
    have hXS : w.heap.size ≠ bS := by have := hB.kS.lt; omega
    have z0 := cellGrown hgr6 hXT (cellLater hB5 (W := W4.drew) d0)
    have z1 := cellGrown hgr6 hXT (cellLater hB5 (W := W4.drew) d1)
    have z2 := cellGrown hgr6 hXT (cellLater hB5 (W := W4.drew) d2)
    have z3 := cellGrown hgr6 hXT (cellLater hB5 (W := W4.drew) d3)
    have z4 := cellGrown hgr6 hXT (cellLater hB5 (W := W4.drew) d4)
    obtain ⟨to0, to1⟩ := hR.to i hi (P i).n hk
    obtain ⟨q, hq⟩ : ∃ q : Nat, ((f i).leg (P i).n).to = (q : Int) := ⟨((f i).leg (P i).n).to.toNat, by omega⟩
    have hst := hR.st
    rw [hq] at g0 to1
    have hq' : Hid _ := hq
    clear hq to0
    have hq1 : q ≤ 100 := by omega
    have hX6 : w.heap.size < W6.heap.size := ltCell z0
    have hn10 : ∀ j, j < np → (moreP P i t j).n ≤ 10 := fun j hj => by
      by_cases e : j = i
      · subst e; rw [moreP_n]; omega
      · rw [moreP_other e]; exact hPn j hj
    have hmb : moreB np f (moreP P i t) (i : Int) = decide ((P i).n + 1 < (f i).nl) := by
      unfold moreB
      have e1 : inB (i : Int) 0 ((np : Int) - 1) = true := decide_eq_true ⟨by omega, by omega⟩
      rw [e1, Int.toNat_natCast, moreP_n]
      rfl
    have hrl0 := Rl.refl R
    clear hput hputB hup hK6 hgr6 hB5 hDr d0 d1 d2 d3 d4 q5 qg hTk hlg4 hwf htkb hXT hbT hlT hw1 hw2 q0 q1 hb4 hbase4 hbl6
    by_cases hn0 : 0 < (P i).n
    · have hn0' : (0 : Int) < ((P i).n : Int) := by omega
      have hcur : cur (f i) (P i).n = ((f i).leg ((P i).n - 1)).to := by
        obtain ⟨e, he⟩ : ∃ e, (P i).n = e + 1 := ⟨(P i).n - 1, by omega⟩
        rw [he]; rfl
      obtain ⟨pt0, pt1⟩ := hR.to i hi ((P i).n - 1) (by omega)
      obtain ⟨p, hp⟩ : ∃ p : Nat, ((f i).leg ((P i).n - 1)).to = (p : Int) := ⟨((f i).leg ((P i).n - 1)).to.toNat, by omega⟩
      have hlg6 : IsLegs 0 W6.heap.size W6 (some ⟨bl, ol, none⟩) (f i).nl (f i).leg := (hlg.below hBW6 (Nat.le_refl _)).mono (Nat.le_refl 0) hB6.base
      have hAh := ahead_any (f i) (P i).n (some ⟨bl, ol, none⟩) lc W6 (Nat.le_of_lt hk) hnl hlg6
      rw [hcur, hp] at hAh
      have hE1p := hE1 hn0
      rw [hp] at hE1p
      have hE0p := hE0 (p : Int)
      go_wp2_with (first | (go_at_call 47; refine hAh.mono ?_; rintro _ w7 ⟨rfl, hB7⟩; have hBd7 := hB6.later hB7; have hBW7 := hBW6.trans (hB7.mono hB6.base); replace z0 := cellLater hB7 z0; replace z1 := cellLater hB7 z1; replace z2 := cellLater hB7 z2; replace z3 := cellLater hB7 z3; replace z4 := cellLater hB7 z4; replace hX6 := Nat.lt_of_lt_of_le hX6 hB7.size) | (go_at_call 50; refine (leaveBd hBd7 p t (by omega) (by omega) (by omega) (by have := hne (p : Int); omega)).mono ?_; rintro _ w8 ⟨rfl, r1, hBd8, hr1E, hr1n, hr1P, hbl8, hst8⟩; have hBW8 := hBW7.trans hbl8; replace z0 := hst8.cell z0 hXS hNX; replace z1 := hst8.cell z1 hXS hNX; replace z2 := hst8.cell z2 hXS hNX; replace z3 := hst8.cell z3 hXS hNX; replace z4 := hst8.cell z4 hXS hNX; have hNX8 := hst8.noR _ hX6 hNX; replace hX6 := Nat.lt_of_lt_of_le hX6 hst8.size; have hrl8 := hrl0.leave hr1E hr1P hr1n; have k0 := cellBelow hBW8 hbl g0; clear hst8 hbl8 hBW7 hBd7 hB7 hAh) | fail)
      have hE8 : ∀ x, 0 ≤ leaveE (fun y => (R y).E) (p : Int) x ∧ leaveE (fun y => (R y).E) (p : Int) x ≤ 90 := fun x => by
        unfold leaveE
        have h1 := hE0 x
        by_cases e : x = (p : Int)
        · subst e; rw [if_pos rfl]; dsimp only; omega
        · rw [if_neg e]; exact h1
      by_cases hlast : (P i).n + 1 < (f i).nl
      · have hmv : moreB np f (moreP P i t) (i : Int) = true := by rw [hmb]; exact decide_eq_true hlast
        have hcv : Hid (stepE f P i (fun y => (R y).E) = enterE (leaveE (fun y => (R y).E) (p : Int)) (q : Int) ∧ stepL f P i t (fun y => listE (R y)) = leaveL (fun y => listE (R y)) (p : Int) t) := by
          unfold Hid stepE stepL
          rw [if_pos hlast, if_pos hlast, if_pos hn0, if_pos hn0, hp, hq'.out]
          exact ⟨rfl, rfl⟩
        clear hmb
        go_wp2_with (first | (go_at_call 51; refine (enterBd hBd8 q hq1 (by omega) (by rw [hrl8.e]; have := hE8 (q : Int); omega)).mono ?_; rintro _ w9 ⟨rfl, r2, hBd9, hr2E, hr2n, hr2P, hbl9, hst9⟩; have hBW9 := hBW8.trans hbl9; replace z0 := hst9.cell z0 hXS hNX8; replace z1 := hst9.cell z1 hXS hNX8; replace z2 := hst9.cell z2 hXS hNX8; replace z3 := hst9.cell z3 hXS hNX8; replace z4 := hst9.cell z4 hXS hNX8; have hNX9 := hst9.noR _ hX6 hNX8; replace hX6 := Nat.lt_of_lt_of_le hX6 hst9.size; have hrl9 := hrl8.enter hr2E hr2P hr2n; replace k0 := cellBelow hBW9 hbl g0; clear hst9 hbl9) | (go_at_call 30; refine (hasNext_any b a len cap gap (some ⟨bt, ot, none⟩) np cap' f (some ⟨gR, 0, none⟩) nc (moreP P i t) t (i : Int) w9 hR hBd9.lp.l2 ((hT.below hBW9 (Nat.le_refl _)).mono (Nat.le_refl 0) hBd9.base) (hBd9.lp.rows hn10)).mono ?_; rw [hmv]; rintro _ w10 ⟨rfl, q10, hw10⟩; have hB10 : Below w9.heap.size w9 w10 := (by rw [hw10]; exact below_drewN (Below.refl _ _) _); clear hw10))
        go_end0
        refine ⟨rfl, _, _, _, by omega, hBd9.later hB10, ?_, hBW9.trans (hB10.mono hBd9.base)⟩
        rw [hcv.out.1, hcv.out.2]
        exact hrl9.mono (by omega)
      · have hmv : moreB np f (moreP P i t) (i : Int) = false := by rw [hmb]; exact decide_eq_false hlast
        have hcv : Hid (stepE f P i (fun y => (R y).E) = leaveE (enterE (leaveE (fun y => (R y).E) (p : Int)) (q : Int)) (q : Int) ∧ stepL f P i t (fun y => listE (R y)) = leaveL (leaveL (fun y => listE (R y)) (p : Int) t) (q : Int) (t + ((f i).leg (P i).n).run)) := by
          unfold Hid stepE stepL
          rw [if_neg hlast, if_neg hlast, if_pos hn0, if_pos hn0, hp, hq'.out]
          exact ⟨rfl, rfl⟩
        clear hmb
        go_wp2_with (first | (go_at_call 51; refine (enterBd hBd8 q hq1 (by omega) (by rw [hrl8.e]; have := hE8 (q : Int); omega)).mono ?_; rintro _ w9 ⟨rfl, r2, hBd9, hr2E, hr2n, hr2P, hbl9, hst9⟩; have hBW9 := hBW8.trans hbl9; replace z0 := hst9.cell z0 hXS hNX8; replace z1 := hst9.cell z1 hXS hNX8; replace z2 := hst9.cell z2 hXS hNX8; replace z3 := hst9.cell z3 hXS hNX8; replace z4 := hst9.cell z4 hXS hNX8; have hNX9 := hst9.noR _ hX6 hNX8; replace hX6 := Nat.lt_of_lt_of_le hX6 hst9.size; have hrl9 := hrl8.enter hr2E hr2P hr2n; replace k0 := cellBelow hBW9 hbl g0; clear hst9 hbl9) | (go_at_call 30; refine (hasNext_any b a len cap gap (some ⟨bt, ot, none⟩) np cap' f (some ⟨gR, 0, none⟩) nc (moreP P i t) t (i : Int) w9 hR hBd9.lp.l2 ((hT.below hBW9 (Nat.le_refl _)).mono (Nat.le_refl 0) hBd9.base) (hBd9.lp.rows hn10)).mono ?_; rw [hmv]; rintro _ w10 ⟨rfl, q10, hw10⟩; have hB10 : Below w9.heap.size w9 w10 := (by rw [hw10]; exact below_drewN (Below.refl _ _) _); clear hw10))
        have hBd10 := hBd9.later hB10
        have hBW10 := hBW9.trans (hB10.mono hBd9.base)
        replace z0 := cellLater hB10 z0
        replace z1 := cellLater hB10 z1
        replace z2 := cellLater hB10 z2
        replace z3 := cellLater hB10 z3
        replace z4 := cellLater hB10 z4
        replace k0 := cellLater hB10 k0
        clear hBd9 hBd8 hr2E hr2n hr2P
        generalize (fun y => if y = (q : Int) then r2 else (if y = (p : Int) then r1 else R y)) = R2 at hBd10 hrl9 hNX9
        have rr := (hBd10.lp.row i hi).2.1
        simp only [if_pos] at rr
        obtain ⟨bp, op, sp, spc, ec, _, _, p0, hin, _⟩ := (hBd10.lp.rows hn10) i hi
        simp only [Option.some.injEq, Addr.mk.injEq] at ec
        obtain ⟨rfl, rfl, _⟩ := ec
        rw [Nat.zero_add] at p0
        have esp := rr.symm.trans p0
        simp only [Option.some.injEq, Value.slice.injEq] at esp
        obtain ⟨rfl, hxx, rfl⟩ := esp
        clear hxx rr p0
        have rr := (hBd10.lp.row i hi).2.1
        simp only [if_pos] at rr
        rw [moreP_n] at hin
        have hlg10 : IsLegs 0 w10.heap.size w10 (some ⟨bl, ol, none⟩) (f i).nl (f i).leg := (hlg.below hBW10 (Nat.le_refl _)).mono (Nat.le_refl 0) hBd10.base
        have hDr : Below w10.heap.size w10 w10.drew := (Below.refl _ _).drew
        have hEn := end_any (f i) (P i).n (some ⟨bl, ol, none⟩) lc (moreP P i t i).s (some ⟨gn, 0, none⟩) cn w10.drew hk hRi (by rw [moreP_new]; omega) (by rw [moreP_new]; omega) (hlg10.grow hDr) (hin.grow hDr)
        rw [moreP_new] at hEn
        have c3 := hBd10.lp.l2.c3
        have hbS : b ≠ bS := hBd10.dist.2.1
        have hgS : gR ≠ bS := hBd10.dist.2.2.2.1
        have hlS : bl ≠ bS := by have := hBd10.lo.2; omega
        have hNb : NoR R2 b := fun y e => (hBd10.offR y b e).1 rfl
        have hNg : NoR R2 gR := fun y e => (hBd10.offR y gR e).2.1 rfl
        have hNl : NoR R2 bl := fun y e => by have := ((hBd10.own y).lt bl e).1; omega
        have hE9 := hrl9.e (q : Int)
        have hE9b : 0 ≤ enterE (leaveE (fun y => (R y).E) (p : Int)) (q : Int) (q : Int) ∧ enterE (leaveE (fun y => (R y).E) (p : Int)) (q : Int) (q : Int) ≤ 91 := by
          unfold enterE
          rw [if_pos rfl]
          have := hE8 (q : Int)
          (try dsimp only at this ⊢)
          omega
        have hn9q := hrl9.n (q : Int)
        have hneq := hne (q : Int)
        have hk0 : (0 : Int) ≤ ((P i).n : Int) := by omega
        have hqE : Hid (0 ≤ (R2 (q : Int)).E ∧ (R2 (q : Int)).E ≤ 100) := by unfold Hid; rw [hE9]; omega
        have hqN : Hid ((R2 (q : Int)).ne ≤ 100) := Nat.le_trans hn9q (by omega)
        clear hin hlg10 hE0 hE1 hne hE8 hE9 hn9q hE9b hneq
        go_region_held3 (fun w' => w'.cell? ⟨w.heap.size, 0, none⟩ = some (.int .i64 (f i).frm) ∧ w'.cell? ⟨w.heap.size, 1, none⟩ = some (.int .i64 (f i).ready) ∧ w'.cell? ⟨w.heap.size, 2, none⟩ = some (.int .i64 (f i).due) ∧ w'.cell? ⟨w.heap.size, 3, none⟩ = some (.int .i64 (f i).weight) ∧ w'.cell? ⟨w.heap.size, 4, none⟩ = some (.slice (some ⟨bl, ol, none⟩) (f i).nl lc) ∧ w'.cell? ⟨b, 3, none⟩ = some (.slice (some ⟨gR, 0, none⟩) np nc) ∧ w'.cell? ⟨gR, i, none⟩ = some (.slice (some ⟨gn, 0, none⟩) ((P i).n + 1) cn) ∧ w'.cell? ⟨bl, ol + (P i).n * 3, none⟩ = some (.int .i64 (q : Int))) (first | (go_split_ands; refine ⟨?_, ?_, ?_, ?_, ?_, ?_, ?_, ?_⟩ <;> exact cellLater hB11 (by assumption)) | (go_split_ands; refine ⟨?_, ?_, ?_, ?_, ?_, ?_, ?_, ?_⟩ <;> exact hst12.cell (by assumption) (by assumption) (by assumption)) | (go_split_ands; refine ⟨?_, ?_, ?_, ?_, ?_, ?_, ?_, ?_⟩ <;> exact cellLater hDr (by assumption)) | go_keep) ((first | (go_at_call 46; refine hEn.mono ?_; rintro _ w11 ⟨rfl, hB11⟩) | (go_at_call 50; refine (leaveBd ((hBd10.later hDr).later hB11) q (t + ((f i).leg (P i).n).run) hq1 (by omega) hqE.out hqN.out).mono ?_; rintro _ w12 ⟨rfl, r3, hBd12, hr3E, hr3n, hr3P, hbl12, hst12⟩)))
        go_wp2
        go_end0
        refine ⟨rfl, _, _, _, by omega, hBd12, ?_, (hBW10.trans ((hDr.mono hBd10.base).trans (hB11.mono hBd10.base))).trans hbl12⟩
        rw [hcv.out.1, hcv.out.2]
        exact (hrl9.leave hr3E hr3P hr3n).mono (by omega)
    · have hn0' : ¬ ((0 : Int) < ((P i).n : Int)) := by omega
      have hrl8 := hrl0
      have hNX8 := hNX
      have hBd8 := hB6
      have hBW8 := hBW6
      have k0 := cellBelow hBW8 hbl g0
      have hE8 : ∀ x, 0 ≤ (fun y => (R y).E) x ∧ (fun y => (R y).E) x ≤ 90 := fun x => hE0 x
      by_cases hlast : (P i).n + 1 < (f i).nl
      · have hmv : moreB np f (moreP P i t) (i : Int) = true := by rw [hmb]; exact decide_eq_true hlast
        have hcv : Hid (stepE f P i (fun y => (R y).E) = enterE (fun y => (R y).E) (q : Int) ∧ stepL f P i t (fun y => listE (R y)) = fun y => listE (R y)) := by
          unfold Hid stepE stepL
          rw [if_pos hlast, if_pos hlast, if_neg hn0, if_neg hn0, hq'.out]
          exact ⟨rfl, rfl⟩
        clear hmb
        go_wp2_with (first | (go_at_call 51; refine (enterBd hBd8 q hq1 (by omega) (by rw [hrl8.e]; have := hE8 (q : Int); omega)).mono ?_; rintro _ w9 ⟨rfl, r2, hBd9, hr2E, hr2n, hr2P, hbl9, hst9⟩; have hBW9 := hBW8.trans hbl9; replace z0 := hst9.cell z0 hXS hNX8; replace z1 := hst9.cell z1 hXS hNX8; replace z2 := hst9.cell z2 hXS hNX8; replace z3 := hst9.cell z3 hXS hNX8; replace z4 := hst9.cell z4 hXS hNX8; have hNX9 := hst9.noR _ hX6 hNX8; replace hX6 := Nat.lt_of_lt_of_le hX6 hst9.size; have hrl9 := hrl8.enter hr2E hr2P hr2n; replace k0 := cellBelow hBW9 hbl g0; clear hst9 hbl9) | (go_at_call 30; refine (hasNext_any b a len cap gap (some ⟨bt, ot, none⟩) np cap' f (some ⟨gR, 0, none⟩) nc (moreP P i t) t (i : Int) w9 hR hBd9.lp.l2 ((hT.below hBW9 (Nat.le_refl _)).mono (Nat.le_refl 0) hBd9.base) (hBd9.lp.rows hn10)).mono ?_; rw [hmv]; rintro _ w10 ⟨rfl, q10, hw10⟩; have hB10 : Below w9.heap.size w9 w10 := (by rw [hw10]; exact below_drewN (Below.refl _ _) _); clear hw10))
        go_end0
        refine ⟨rfl, _, _, _, by omega, hBd9.later hB10, ?_, hBW9.trans (hB10.mono hBd9.base)⟩
        rw [hcv.out.1, hcv.out.2]
        exact hrl9.mono (by omega)
      · have hmv : moreB np f (moreP P i t) (i : Int) = false := by rw [hmb]; exact decide_eq_false hlast
        have hcv : Hid (stepE f P i (fun y => (R y).E) = leaveE (enterE (fun y => (R y).E) (q : Int)) (q : Int) ∧ stepL f P i t (fun y => listE (R y)) = leaveL (fun y => listE (R y)) (q : Int) (t + ((f i).leg (P i).n).run)) := by
          unfold Hid stepE stepL
          rw [if_neg hlast, if_neg hlast, if_neg hn0, if_neg hn0, hq'.out]
          exact ⟨rfl, rfl⟩
        clear hmb
        go_wp2_with (first | (go_at_call 51; refine (enterBd hBd8 q hq1 (by omega) (by rw [hrl8.e]; have := hE8 (q : Int); omega)).mono ?_; rintro _ w9 ⟨rfl, r2, hBd9, hr2E, hr2n, hr2P, hbl9, hst9⟩; have hBW9 := hBW8.trans hbl9; replace z0 := hst9.cell z0 hXS hNX8; replace z1 := hst9.cell z1 hXS hNX8; replace z2 := hst9.cell z2 hXS hNX8; replace z3 := hst9.cell z3 hXS hNX8; replace z4 := hst9.cell z4 hXS hNX8; have hNX9 := hst9.noR _ hX6 hNX8; replace hX6 := Nat.lt_of_lt_of_le hX6 hst9.size; have hrl9 := hrl8.enter hr2E hr2P hr2n; replace k0 := cellBelow hBW9 hbl g0; clear hst9 hbl9) | (go_at_call 30; refine (hasNext_any b a len cap gap (some ⟨bt, ot, none⟩) np cap' f (some ⟨gR, 0, none⟩) nc (moreP P i t) t (i : Int) w9 hR hBd9.lp.l2 ((hT.below hBW9 (Nat.le_refl _)).mono (Nat.le_refl 0) hBd9.base) (hBd9.lp.rows hn10)).mono ?_; rw [hmv]; rintro _ w10 ⟨rfl, q10, hw10⟩; have hB10 : Below w9.heap.size w9 w10 := (by rw [hw10]; exact below_drewN (Below.refl _ _) _); clear hw10))
        have hBd10 := hBd9.later hB10
        have hBW10 := hBW9.trans (hB10.mono hBd9.base)
        replace z0 := cellLater hB10 z0
        replace z1 := cellLater hB10 z1
        replace z2 := cellLater hB10 z2
        replace z3 := cellLater hB10 z3
        replace z4 := cellLater hB10 z4
        replace k0 := cellLater hB10 k0
        clear hBd9 hBd8 hr2E hr2n hr2P
        generalize (fun y => if y = (q : Int) then r2 else R y) = R2 at hBd10 hrl9 hNX9
        have rr := (hBd10.lp.row i hi).2.1
        simp only [if_pos] at rr
        obtain ⟨bp, op, sp, spc, ec, _, _, p0, hin, _⟩ := (hBd10.lp.rows hn10) i hi
        simp only [Option.some.injEq, Addr.mk.injEq] at ec
        obtain ⟨rfl, rfl, _⟩ := ec
        rw [Nat.zero_add] at p0
        have esp := rr.symm.trans p0
        simp only [Option.some.injEq, Value.slice.injEq] at esp
        obtain ⟨rfl, hxx, rfl⟩ := esp
        clear hxx rr p0
        have rr := (hBd10.lp.row i hi).2.1
        simp only [if_pos] at rr
        rw [moreP_n] at hin
        have hlg10 : IsLegs 0 w10.heap.size w10 (some ⟨bl, ol, none⟩) (f i).nl (f i).leg := (hlg.below hBW10 (Nat.le_refl _)).mono (Nat.le_refl 0) hBd10.base
        have hDr : Below w10.heap.size w10 w10.drew := (Below.refl _ _).drew
        have hEn := end_any (f i) (P i).n (some ⟨bl, ol, none⟩) lc (moreP P i t i).s (some ⟨gn, 0, none⟩) cn w10.drew hk hRi (by rw [moreP_new]; omega) (by rw [moreP_new]; omega) (hlg10.grow hDr) (hin.grow hDr)
        rw [moreP_new] at hEn
        have c3 := hBd10.lp.l2.c3
        have hbS : b ≠ bS := hBd10.dist.2.1
        have hgS : gR ≠ bS := hBd10.dist.2.2.2.1
        have hlS : bl ≠ bS := by have := hBd10.lo.2; omega
        have hNb : NoR R2 b := fun y e => (hBd10.offR y b e).1 rfl
        have hNg : NoR R2 gR := fun y e => (hBd10.offR y gR e).2.1 rfl
        have hNl : NoR R2 bl := fun y e => by have := ((hBd10.own y).lt bl e).1; omega
        have hE9 := hrl9.e (q : Int)
        have hE9b : 0 ≤ enterE (fun y => (R y).E) (q : Int) (q : Int) ∧ enterE (fun y => (R y).E) (q : Int) (q : Int) ≤ 91 := by
          unfold enterE
          rw [if_pos rfl]
          have := hE8 (q : Int)
          (try dsimp only at this ⊢)
          omega
        have hn9q := hrl9.n (q : Int)
        have hneq := hne (q : Int)
        have hk0 : (0 : Int) ≤ ((P i).n : Int) := by omega
        have hqE : Hid (0 ≤ (R2 (q : Int)).E ∧ (R2 (q : Int)).E ≤ 100) := by unfold Hid; rw [hE9]; omega
        have hqN : Hid ((R2 (q : Int)).ne ≤ 100) := Nat.le_trans hn9q (by omega)
        clear hin hlg10 hE0 hE1 hne hE8 hE9 hn9q hE9b hneq
        go_region_held3 (fun w' => w'.cell? ⟨w.heap.size, 0, none⟩ = some (.int .i64 (f i).frm) ∧ w'.cell? ⟨w.heap.size, 1, none⟩ = some (.int .i64 (f i).ready) ∧ w'.cell? ⟨w.heap.size, 2, none⟩ = some (.int .i64 (f i).due) ∧ w'.cell? ⟨w.heap.size, 3, none⟩ = some (.int .i64 (f i).weight) ∧ w'.cell? ⟨w.heap.size, 4, none⟩ = some (.slice (some ⟨bl, ol, none⟩) (f i).nl lc) ∧ w'.cell? ⟨b, 3, none⟩ = some (.slice (some ⟨gR, 0, none⟩) np nc) ∧ w'.cell? ⟨gR, i, none⟩ = some (.slice (some ⟨gn, 0, none⟩) ((P i).n + 1) cn) ∧ w'.cell? ⟨bl, ol + (P i).n * 3, none⟩ = some (.int .i64 (q : Int))) (first | (go_split_ands; refine ⟨?_, ?_, ?_, ?_, ?_, ?_, ?_, ?_⟩ <;> exact cellLater hB11 (by assumption)) | (go_split_ands; refine ⟨?_, ?_, ?_, ?_, ?_, ?_, ?_, ?_⟩ <;> exact hst12.cell (by assumption) (by assumption) (by assumption)) | (go_split_ands; refine ⟨?_, ?_, ?_, ?_, ?_, ?_, ?_, ?_⟩ <;> exact cellLater hDr (by assumption)) | go_keep) ((first | (go_at_call 46; refine hEn.mono ?_; rintro _ w11 ⟨rfl, hB11⟩) | (go_at_call 50; refine (leaveBd ((hBd10.later hDr).later hB11) q (t + ((f i).leg (P i).n).run) hq1 (by omega) hqE.out hqN.out).mono ?_; rintro _ w12 ⟨rfl, r3, hBd12, hr3E, hr3n, hr3P, hbl12, hst12⟩)))
        go_wp2
        go_end0
        refine ⟨rfl, _, _, _, by omega, hBd12, ?_, (hBW10.trans ((hDr.mono hBd10.base).trans (hB11.mono hBd10.base))).trans hbl12⟩
        rw [hcv.out.1, hcv.out.2]
        exact (hrl9.leave hr3E hr3P hr3n).mono (by omega)
end Go.Proofs.YtnjaegeapcijpaaDoor

namespace Go.Proofs.YtnjaegeapcijpaaDoor
open Go.RowKit

structure BI (np : Nat) (f : Nat → TrainD) (P : Nat → RowD) (gap last : Int) (T : Int → TrackD) (R : Int → RoomD) (k : Nat) : Prop where
  ti : TI np f P gap T
  si : SI np f P last (fun x => (R x).E) (fun x => listE (R x))
  ne : ∀ x, (R x).ne ≤ 2 * k
  el : ∀ x, ∀ e ∈ listE (R x), 0 ≤ e ∧ e ≤ 1000000

theorem thereRow_pos {f : Nat → TrainD} {P : Nat → RowD} {s t : Int} {j : Nat} : ∀ {n m : Nat}, m < n → hereB f P s t j m = true → 1 ≤ thereRow f P s t j n
  | 0, _, h, _ => absurd h (Nat.not_lt_zero _)
  | n + 1, m, h, hh => by
    simp only [thereRow]
    rcases Nat.lt_or_ge m n with h1 | h1
    · have := thereRow_pos (n := n) h1 hh; omega
    · obtain rfl : m = n := by omega
      rw [if_pos hh]; omega
theorem thereAll_row {f : Nat → TrainD} {P : Nat → RowD} {s t : Int} {j : Nat} : ∀ {n : Nat}, j < n → thereRow f P s t j (P j).n ≤ thereAll f P s t n
  | 0, h => absurd h (Nat.not_lt_zero _)
  | n + 1, h => by
    simp only [thereAll]
    rcases Nat.lt_or_ge j n with h1 | h1
    · have := thereAll_row (f := f) (P := P) (s := s) (t := t) (n := n) h1; omega
    · obtain rfl : j = n := by omega
      omega
theorem cntGe_zero {L : List Int} {t : Int} (h : ∀ e ∈ L, e < t) : cntGe L t = 0 := by
  unfold cntGe
  rw [List.countP_eq_zero]
  intro e he
  have := h e he
  simp; omega
section
variable {np : Nat} {f : Nat → TrainD} {P : Nat → RowD} {gap last : Int} {T : Int → TrackD} {R : Int → RoomD} {k : Nat}
theorem BI.at_ (h : BI np f P gap last T R k) (hl : last ≤ 600000) (x : Int) : (R x).E = (thereAll f P x 1000001 np : Int) := by
  have h1 := h.si.cnt x 1000001 (by omega)
  rw [cntGe_zero (fun e he => by have := h.el x e he; omega)] at h1
  omega
theorem BI.E {len : Nat} (h : BI np f P gap last T R k) (hR : RightL len np f) (hQ : PartP np f P last) (hl : last ≤ 600000) (x : Int) : 0 ≤ (R x).E ∧ (R x).E ≤ 50 := by
  rw [h.at_ hl x]
  have h1 := thereAll_le (f := f) (P := P) (s := x) (t := 1000001) (n := np) (fun j hj => Nat.le_trans (hQ.le j hj) (hR.train j hj).nl) np (Nat.le_refl _)
  have h2 := hR.tr
  constructor <;> omega
theorem BI.ahead (h : BI np f P gap last T R k) (hl : last ≤ 600000) {i : Nat} (hi : i < np) (h0 : 0 < (P i).n) (hk : (P i).n < (f i).nl) : 1 ≤ (R ((f i).leg ((P i).n - 1)).to).E := by
  rw [h.at_ hl]
  have hh : hereB f P ((f i).leg ((P i).n - 1)).to 1000001 i ((P i).n - 1) = true := by
    unfold hereB leaveO
    rw [if_neg (by omega), if_pos (by omega)]
    simp
  have h1 := thereRow_pos (n := (P i).n) (by omega) hh
  have h2 := thereAll_row (f := f) (P := P) (s := ((f i).leg ((P i).n - 1)).to) (t := 1000001) hi
  omega
theorem SI.perm {E E' : Int → Int} {L M : Int → List Int} (h : SI np f P last E L) (hE : ∀ x, E' x = E x) (hM : ∀ x, (M x).Perm (L x)) : SI np f P last E' M :=
  ⟨fun x t ht => by rw [hE, cntGe_perm (hM x)]; exact h.cnt x t ht⟩

/-- a leg is begun -/
theorem BI.step {len : Nat} {g : Nat → Int} (h : BI np f P gap last T R k) (hR : RightL len np f) (hG : RightG len g gap np f) {i : Nat} (hi : i < np) (hk : (P i).n < (f i).nl) {q t low : Int} {r : RoomD} (hll : last ≤ low) (hlow : low = lowOf np f P gap last i) (ht0 : 0 ≤ t) (ht6 : t ≤ 600000)
    (hrd : readyOf f P i (P i).n ≤ low) (hSF : SF low (R q).E (g q.toNat) (listE (R q)) t (listE r)) (hrE : r.E = (R q).E) (hrn : r.ne ≤ (R q).ne)
    {R' : Int → RoomD} (hRl : Rl (fun y => if y = q then r else R y) R' (stepE f P i (fun y => ((fun y => if y = q then r else R y) y).E)) (stepL f P i t (fun y => listE ((fun y => if y = q then r else R y) y))) 2) :
    BI np f (moreP P i t) gap t (fun y => if y = trackOf (f i) (P i).n then ⟨i, t, t + ((f i).leg (P i).n).run + gap⟩ else T y) R' (k + 1) := by
  have hlt := hSF.lo
  have hr0 : ∀ j, j < np → ∀ m, m < (f j).nl → 0 ≤ ((f j).leg m).run := fun j hj m hm => by have := (hR.train j hj).leg m hm; omega
  have hE1 : ∀ x, ((fun y => if y = q then r else R y) x).E = (R x).E := fun x => by
    by_cases e : x = q
    · subst e; simp only [if_pos]; exact hrE
    · simp only [if_neg e]
  have hsi1 : SI np f P t (fun y => ((fun y => if y = q then r else R y) y).E) (fun y => listE ((fun y => if y = q then r else R y) y)) := by
    have h1 : SI np f P t (fun x => (R x).E) (fun y => listE ((fun y => if y = q then r else R y) y)) := h.si.keep (by omega) (fun x u hu => by
      by_cases e : x = q
      · subst e; simp only [if_pos]; exact hSF.keep u hu
      · simp only [if_neg e])
    exact ⟨fun x u hu => by rw [hE1 x]; exact h1.cnt x u hu⟩
  have hgo := hsi1.go hi hk (E1 := if 0 < (P i).n then leaveE (fun y => ((fun y => if y = q then r else R y) y).E) ((f i).leg ((P i).n - 1)).to else (fun y => ((fun y => if y = q then r else R y) y).E)) (L1 := if 0 < (P i).n then leaveL (fun y => listE ((fun y => if y = q then r else R y) y)) ((f i).leg ((P i).n - 1)).to t else (fun y => listE ((fun y => if y = q then r else R y) y)))
    (fun e => ⟨by rw [if_neg (by omega)], by rw [if_neg (by omega)]⟩) (fun e => ⟨by rw [if_pos e], by rw [if_pos e]⟩)
  have hsi2 : SI np f (moreP P i t) t (stepE f P i (fun y => ((fun y => if y = q then r else R y) y).E)) (stepL f P i t (fun y => listE ((fun y => if y = q then r else R y) y))) := by
    unfold stepE stepL
    by_cases hl : (P i).n + 1 < (f i).nl
    · rw [if_pos hl, if_pos hl]; exact hgo.1 hl
    · rw [if_neg hl, if_neg hl]; exact hgo.2 hl
  have hrunb := (hR.train i hi).leg (P i).n hk
  have hel1 : ∀ x, ∀ e ∈ listE ((fun y => if y = q then r else R y) x), 0 ≤ e ∧ e ≤ 1000000 := fun x e he => by
    by_cases ex : x = q
    · subst ex; simp only [if_pos] at he; exact h.el x e (hSF.mem e he)
    · simp only [if_neg ex] at he; exact h.el x e he
  have hel2 : ∀ (L : Int → List Int) (y s x : Int), (∀ x, ∀ e ∈ L x, 0 ≤ e ∧ e ≤ 1000000) → 0 ≤ s → s ≤ 1000000 → ∀ e ∈ leaveL L y s x, 0 ≤ e ∧ e ≤ 1000000 := fun L y s x hL h0 h1 e he => by
    unfold leaveL at he
    split at he
    · rcases List.mem_cons.1 he with rfl | h2
      · exact ⟨h0, h1⟩
      · exact hL x e h2
    · exact hL x e he
  have hel3 : ∀ x, ∀ e ∈ stepL f P i t (fun y => listE ((fun y => if y = q then r else R y) y)) x, 0 ≤ e ∧ e ≤ 1000000 := fun x => by
    have hL1 : ∀ x, ∀ e ∈ (if 0 < (P i).n then leaveL (fun y => listE ((fun y => if y = q then r else R y) y)) ((f i).leg ((P i).n - 1)).to t else (fun y => listE ((fun y => if y = q then r else R y) y))) x, 0 ≤ e ∧ e ≤ 1000000 := fun x => by
      split
      · exact hel2 _ _ _ x hel1 ht0 (by omega)
      · exact hel1 x
    unfold stepL
    split
    · exact hL1 x
    · exact hel2 _ _ _ x hL1 (by omega) (by omega)
  refine ⟨?_, hsi2.perm hRl.e hRl.p, fun x => ?_, fun x e he => hel3 x e ((hRl.p x).mem_iff.1 he)⟩
  · refine h.ti.more hi hG.g0 hr0 hk (by rw [← hlow]; exact hlt) (fun j hj => ?_)
    have h1 : readyOf f P i (P i).n = (P i).s j + ((f i).leg j).run + ((f i).leg (j + 1)).stay := by rw [hj]; rfl
    have h2 := (hR.train i hi).leg (j + 1) (by omega)
    omega
  · have h1 := hRl.n x
    have h2 := h.ne x
    by_cases e : x = q
    · subst e; simp only [if_pos] at h1; omega
    · simp only [if_neg e] at h1; omega
end
end Go.Proofs.YtnjaegeapcijpaaDoor

namespace Go.Proofs.YtnjaegeapcijpaaDoor
open Go.RowKit

set_option maxRecDepth 20000 in
set_option maxHeartbeats 4000000 in
theorem place_no (b : Nat) (a : Option Addr) (len cap : Nat) (gap : Int) (a' : Option Addr) (np cap' : Nat) (f : Nat → TrainD) (c : Option Addr) (nc : Nat) (P : Nat → RowD) (last : Int) (i : Int) (w : World) (hR : RightL len np f)
    (hL : L2 w b a len cap gap a' np cap' c nc last) (hT : IsTrains 0 w.heap.size w a' np f) (hP : IsRows 0 w.heap.size w c np P) (hm : moreB np f P i = false) :
    Calls Tryd.prog 14 #[.pointer (some ⟨b, 0, none⟩), .int .i64 i] w fun e w' => e = .returned (.int .i64 2) ∧ Below w.heap.size w w' := by
  have hHN := hasNext_any b a len cap gap a' np cap' f c nc P last i w hR hL hT hP
  rw [hm] at hHN
  go_enter Tryd.func14, Tryd.ntmps14
  go_wp2_with (go_at_call 30; refine hHN.mono ?_; rintro _ w1 ⟨rfl, q1, hw1⟩; have hB1 : Below w.heap.size w w1 := (by rw [hw1]; exact below_drewN (Below.refl _ _) _); clear hw1)
  go_ret
  exact ⟨rfl, hB1⟩

set_option maxRecDepth 20000 in
set_option maxHeartbeats 16000000 in
theorem place_main (B0 b gR bT bS : Nat) (a : Option Addr) (len cap : Nat) (g : Nat → Int) (gap : Int) (a' : Option Addr) (np cap' nc : Nat) (f : Nat → TrainD) (v : Nat → Value) (P : Nat → RowD) (last : Int) (n : Nat) (T : Int → TrackD) (R : Int → RoomD) (k i : Nat) (w : World)
    (hR : RightL len np f) (hG : RightG len g gap np f) (hQ : PartP np f P last) (hi : i < np) (hk : (P i).n < (f i).nl) (hk10 : k < 10) (hl : last ≤ 110000 + 20001 * (k : Int)) (hn8 : n ≤ 800)
    (hB : Bd B0 w b gR bT bS a len cap gap a' np cap' nc v P last n T R) (hBI : BI np f P gap last T R k) (hI : IsInts 0 B0 w a len g) (hT : IsTrains 0 B0 w a' np f) :
    Calls Tryd.prog 14 #[.pointer (some ⟨b, 0, none⟩), .int .i64 i] w fun e w' =>
      ((∀ t, lowOf np f P gap last i ≤ t → fullAt np g f P (stOf f P i) t) ∧ e = .returned (.int .i64 3) ∧ Below B0 w w') ∨
      (∃ t v' T' R' n', IsFirst np g f P (stOf f P i) (lowOf np f P gap last i) t ∧ e = .returned (.int .i64 0) ∧ n' ≤ n + 5 ∧ Bd B0 w' b gR bT bS a len cap gap a' np cap' nc v' (moreP P i t) t n' T' R' ∧ BI np f (moreP P i t) gap t T' R' (k + 1) ∧ Below B0 w w') := by
  have htr := hR.tr
  have hRi := hR.train i hi
  have hnl := hRi.nl
  have hi' : (i : Int) < (np : Int) := by omega
  have hi0 : (0 : Int) ≤ (i : Int) := by omega
  have hn10 : ∀ j, j < np → (P j).n ≤ 10 := fun j hj => Nat.le_trans (hQ.le j hj) (hR.train j hj).nl
  have hbase := hB.base
  have hT0 : IsTrains 0 w.heap.size w a' np f := hT.mono (Nat.le_refl 0) hbase
  have hP := hB.lp.rows hn10
  have hHN := hasNext_any b a len cap gap a' np cap' f (some ⟨gR, 0, none⟩) nc P last (i : Int) w hR hB.lp.l2 hT0 hP
  have hmt : moreB np f P (i : Int) = true := by
    unfold moreB
    have e1 : inB (i : Int) 0 ((np : Int) - 1) = true := decide_eq_true ⟨by omega, by omega⟩
    rw [e1, Int.toNat_natCast]
    exact decide_eq_true hk
  rw [hmt] at hHN
  clear hmt
  obtain ⟨bt, ot, la, lc, rfl, _, hbt, t0, t1, t2, t3, t4, hlg, _⟩ := hT i hi
  obtain ⟨lp, lpc, hvf⟩ := hB.lp.form hi
  have x2 := hB.lp.l2.c2
  have x3 := hB.lp.l2.c3
  have r0 := (hB.lp.row i hi).2.1
  rw [hvf] at r0
  have hin : IsInts 0 w.heap.size w lp (P i).n (P i).s := by
    obtain ⟨bp, op, sp, spc, ec, _, _, p0, hin, _⟩ := hP i hi
    simp only [Option.some.injEq, Addr.mk.injEq] at ec
    obtain ⟨rfl, rfl, _⟩ := ec
    rw [Nat.zero_add] at p0
    have esp := r0.symm.trans p0
    simp only [Option.some.injEq, Value.slice.injEq] at esp
    obtain ⟨rfl, _, _⟩ := esp
    exact hin
  go_enter Tryd.func14, Tryd.ntmps14
  go_wp2_with (go_at_call 30; refine hHN.mono ?_; rintro _ w1 ⟨rfl, q1, hw1⟩; have hB1 : Below w.heap.size w w1 := (by rw [hw1]; exact below_drewN (Below.refl _ _) _); clear hw1 hHN; replace x2 := cellLater hB1 x2; replace x3 := cellLater hB1 x3; replace r0 := cellLater hB1 r0; replace t0 := cellLater hB1 t0; replace t1 := cellLater hB1 t1; replace t2 := cellLater hB1 t2; replace t3 := cellLater hB1 t3; replace t4 := cellLater hB1 t4; have lb := ltCell x3; have lg := ltCell r0)
  have hA1 := b1 w1 (.cells #[.int .i64 (f i).frm, .int .i64 (f i).ready, .int .i64 (f i).due, .int .i64 (f i).weight, .slice la (f i).nl lc] 71)
  have hTb := Go.heap_alloc_new w1 (.cells #[.int .i64 (f i).frm, .int .i64 (f i).ready, .int .i64 (f i).due, .int .i64 (f i).weight, .slice la (f i).nl lc] 71)
  refine nameW fun V hV => ?_
  rw [← hV] at hA1 hTb
  have e0 := cell_of_row V w1.heap.size 0 _ _ _ hTb
  have e1 := cell_of_row V w1.heap.size 1 _ _ _ hTb
  have e2 := cell_of_row V w1.heap.size 2 _ _ _ hTb
  have e3 := cell_of_row V w1.heap.size 3 _ _ _ hTb
  have e4 := cell_of_row V w1.heap.size 4 _ _ _ hTb
  simp at e0 e1 e2 e3 e4
  clear hV hTb t0 t1 t2 t3 t4 lb lg
  replace x3 := cellLater hA1 x3
  replace r0 := cellLater hA1 r0
  have hwV := Below.join hB1 (Nat.le_refl _) hA1
  have hBV := hB.later hwV
  have x4 := hBV.lp.l2.c4
  have hlgw : IsLegs 0 w.heap.size w la (f i).nl (f i).leg := hlg.mono (Nat.le_refl 0) hbase
  have hs6 : ∀ j, j < (P i).n → 0 ≤ (P i).s j ∧ (P i).s j ≤ 1000000 := fun j hj => by have := hQ.at0 i hi j hj; have := hQ.l1; omega
  have htkb := track_bd hR hG hi hk
  have hwf := wf_small (x := trackOf (f i) (P i).n) (by omega) (by omega)
  have hSo := soonest_any (f i) (P i).s (P i).n la lc lp lpc V.drew hk hRi hs6 (hlgw.grow hwV.drew) (hin.grow hwV.drew)
  rw [readyR_eq] at hSo
  have hTO : ∀ X, Below V.heap.size V X → Calls Tryd.prog 33 #[.agg #[.int .i64 (f i).frm, .int .i64 (f i).ready, .int .i64 (f i).due, .int .i64 (f i).weight, .slice la (f i).nl lc], .int .i64 (P i).n] X fun e w' => e = .returned (.int .i64 (trackOf (f i) (P i).n)) ∧ Below X.heap.size X w' := fun X hX => trackOf_any (f i) (P i).n la lc X hk hnl (hlgw.grow (Below.join hwV (Nat.le_refl _) hX))
  have hTF : ∀ X, Below V.heap.size V X → Calls Tryd.prog 32 #[.pointer (some ⟨b, 0, none⟩), .int .i64 i, .int .i64 (trackOf (f i) (P i).n)] X fun e w' => e = .returned (.int .i64 (trackFreeD T i (trackOf (f i) (P i).n))) ∧ Below X.heap.size X w' := fun X hX =>
    trackFree_any b bT n (fun x => trackV (T x)) i (trackOf (f i) (P i).n) ((T (trackOf (f i) (P i).n)).tr : Int) (T (trackOf (f i) (P i).n)).frm (T (trackOf (f i) (P i).n)).free X hwf (hBV.later hX).c5 (hBV.later hX).kT rfl
  have hlow := hBI.ti.low hQ (i := i) (k := (P i).n) (lw := maxZ (readyOf f P i (P i).n) last) (by unfold maxZ; split <;> omega)
  have hlowb := low_bd hR hG hQ hi hk
  have hrdb := ready_bd hR hQ hi hk
  have hrle : readyOf f P i (P i).n ≤ lowOf np f P gap last i := by
    have h1 := (trackAll_is (f := f) (P := P) (gap := gap) (i := i) (k := (P i).n) (a := maxZ (readyOf f P i (P i).n) last) np).1
    have h2 : readyOf f P i (P i).n ≤ maxZ (readyOf f P i (P i).n) last := by unfold maxZ; split <;> omega
    exact Int.le_trans h2 h1
  have hlow2 : lowOf np f P gap last i = maxZ (maxZ (readyOf f P i (P i).n) last) (trackFreeD T i (trackOf (f i) (P i).n)) := hlow
  generalize hrd : readyOf f P i (P i).n = rd at hSo hrdb hrle hlow2
  generalize htf : trackFreeD T i (trackOf (f i) (P i).n) = tf at hTF hlow2
  generalize hlo : lowOf np f P gap last i = low at hlow2 hlowb hrle ⊢
  have hrd' : Hid _ := hrd
  have hlo' : Hid _ := hlo
  have hlow' : Hid _ := hlow2
  clear hrd htf hlo hlow hlow2 hwf x2
  go_cut [7] (fun v wc => v = .int .i64 low ∧ Below V.heap.size V wc)
  case first =>
    have hDr : Below V.heap.size V V.drew := (Below.refl _ _).drew
    have hVV := hDr
    by_cases h1 : rd < last
    · have em : Hid (maxZ rd last = last) := by unfold Hid maxZ; rw [if_pos h1]
      by_cases h2 : last < tf
      · have ev : Hid (low = tf) := by unfold Hid; rw [hlow'.out, em.out]; unfold maxZ; rw [if_pos h2]
        go_region_held3 (fun w' => w'.cell? ⟨w1.heap.size, 0, none⟩ = some (.int .i64 (f i).frm) ∧ w'.cell? ⟨w1.heap.size, 1, none⟩ = some (.int .i64 (f i).ready) ∧ w'.cell? ⟨w1.heap.size, 2, none⟩ = some (.int .i64 (f i).due) ∧ w'.cell? ⟨w1.heap.size, 3, none⟩ = some (.int .i64 (f i).weight) ∧ w'.cell? ⟨w1.heap.size, 4, none⟩ = some (.slice la (f i).nl lc) ∧ w'.cell? ⟨b, 3, none⟩ = some (.slice (some ⟨gR, 0, none⟩) np nc) ∧ w'.cell? ⟨gR, i, none⟩ = some (.slice lp (P i).n lpc) ∧ w'.cell? ⟨b, 4, none⟩ = some (.int .i64 last)) (first | (go_split_ands; refine ⟨?_, ?_, ?_, ?_, ?_, ?_, ?_, ?_⟩ <;> exact cellLater hB5 (by assumption)) | (go_split_ands; refine ⟨?_, ?_, ?_, ?_, ?_, ?_, ?_, ?_⟩ <;> exact cellLater hDr (by assumption)) | go_keep) ((first | (go_at_call 31; refine hSo.mono ?_; rintro _ w5 ⟨rfl, hB5⟩; replace hVV := Below.join hVV (Nat.le_refl _) hB5) | (go_at_call 33; refine (hTO _ hVV).mono ?_; rintro _ w5 ⟨rfl, hB5⟩; replace hVV := Below.join hVV (Nat.le_refl _) hB5) | (go_at_call 32; refine (hTF _ hVV).mono ?_; rintro _ w5 ⟨rfl, hB5⟩; replace hVV := Below.join hVV (Nat.le_refl _) hB5)))
        all_goals
          go_wp2_with fail
          go_meet
          case rel => exact ⟨by rw [ev.out], hVV⟩
      · have ev : Hid (low = last) := by unfold Hid; rw [hlow'.out, em.out]; unfold maxZ; rw [if_neg h2]
        go_region_held3 (fun w' => w'.cell? ⟨w1.heap.size, 0, none⟩ = some (.int .i64 (f i).frm) ∧ w'.cell? ⟨w1.heap.size, 1, none⟩ = some (.int .i64 (f i).ready) ∧ w'.cell? ⟨w1.heap.size, 2, none⟩ = some (.int .i64 (f i).due) ∧ w'.cell? ⟨w1.heap.size, 3, none⟩ = some (.int .i64 (f i).weight) ∧ w'.cell? ⟨w1.heap.size, 4, none⟩ = some (.slice la (f i).nl lc) ∧ w'.cell? ⟨b, 3, none⟩ = some (.slice (some ⟨gR, 0, none⟩) np nc) ∧ w'.cell? ⟨gR, i, none⟩ = some (.slice lp (P i).n lpc) ∧ w'.cell? ⟨b, 4, none⟩ = some (.int .i64 last)) (first | (go_split_ands; refine ⟨?_, ?_, ?_, ?_, ?_, ?_, ?_, ?_⟩ <;> exact cellLater hB5 (by assumption)) | (go_split_ands; refine ⟨?_, ?_, ?_, ?_, ?_, ?_, ?_, ?_⟩ <;> exact cellLater hDr (by assumption)) | go_keep) ((first | (go_at_call 31; refine hSo.mono ?_; rintro _ w5 ⟨rfl, hB5⟩; replace hVV := Below.join hVV (Nat.le_refl _) hB5) | (go_at_call 33; refine (hTO _ hVV).mono ?_; rintro _ w5 ⟨rfl, hB5⟩; replace hVV := Below.join hVV (Nat.le_refl _) hB5) | (go_at_call 32; refine (hTF _ hVV).mono ?_; rintro _ w5 ⟨rfl, hB5⟩; replace hVV := Below.join hVV (Nat.le_refl _) hB5)))
        all_goals
          go_wp2_with fail
          go_meet
          case rel => exact ⟨by rw [ev.out], hVV⟩
    · have em : Hid (maxZ rd last = rd) := by unfold Hid maxZ; rw [if_neg h1]
      by_cases h2 : rd < tf
      · have ev : Hid (low = tf) := by unfold Hid; rw [hlow'.out, em.out]; unfold maxZ; rw [if_pos h2]
        go_region_held3 (fun w' => w'.cell? ⟨w1.heap.size, 0, none⟩ = some (.int .i64 (f i).frm) ∧ w'.cell? ⟨w1.heap.size, 1, none⟩ = some (.int .i64 (f i).ready) ∧ w'.cell? ⟨w1.heap.size, 2, none⟩ = some (.int .i64 (f i).due) ∧ w'.cell? ⟨w1.heap.size, 3, none⟩ = some (.int .i64 (f i).weight) ∧ w'.cell? ⟨w1.heap.size, 4, none⟩ = some (.slice la (f i).nl lc) ∧ w'.cell? ⟨b, 3, none⟩ = some (.slice (some ⟨gR, 0, none⟩) np nc) ∧ w'.cell? ⟨gR, i, none⟩ = some (.slice lp (P i).n lpc) ∧ w'.cell? ⟨b, 4, none⟩ = some (.int .i64 last)) (first | (go_split_ands; refine ⟨?_, ?_, ?_, ?_, ?_, ?_, ?_, ?_⟩ <;> exact cellLater hB5 (by assumption)) | (go_split_ands; refine ⟨?_, ?_, ?_, ?_, ?_, ?_, ?_, ?_⟩ <;> exact cellLater hDr (by assumption)) | go_keep) ((first | (go_at_call 31; refine hSo.mono ?_; rintro _ w5 ⟨rfl, hB5⟩; replace hVV := Below.join hVV (Nat.le_refl _) hB5) | (go_at_call 33; refine (hTO _ hVV).mono ?_; rintro _ w5 ⟨rfl, hB5⟩; replace hVV := Below.join hVV (Nat.le_refl _) hB5) | (go_at_call 32; refine (hTF _ hVV).mono ?_; rintro _ w5 ⟨rfl, hB5⟩; replace hVV := Below.join hVV (Nat.le_refl _) hB5)))
        all_goals
          go_wp2_with fail
          go_meet
          case rel => exact ⟨by rw [ev.out], hVV⟩
      · have ev : Hid (low = rd) := by unfold Hid; rw [hlow'.out, em.out]; unfold maxZ; rw [if_neg h2]
        go_region_held3 (fun w' => w'.cell? ⟨w1.heap.size, 0, none⟩ = some (.int .i64 (f i).frm) ∧ w'.cell? ⟨w1.heap.size, 1, none⟩ = some (.int .i64 (f i).ready) ∧ w'.cell? ⟨w1.heap.size, 2, none⟩ = some (.int .i64 (f i).due) ∧ w'.cell? ⟨w1.heap.size, 3, none⟩ = some (.int .i64 (f i).weight) ∧ w'.cell? ⟨w1.heap.size, 4, none⟩ = some (.slice la (f i).nl lc) ∧ w'.cell? ⟨b, 3, none⟩ = some (.slice (some ⟨gR, 0, none⟩) np nc) ∧ w'.cell? ⟨gR, i, none⟩ = some (.slice lp (P i).n lpc) ∧ w'.cell? ⟨b, 4, none⟩ = some (.int .i64 last)) (first | (go_split_ands; refine ⟨?_, ?_, ?_, ?_, ?_, ?_, ?_, ?_⟩ <;> exact cellLater hB5 (by assumption)) | (go_split_ands; refine ⟨?_, ?_, ?_, ?_, ?_, ?_, ?_, ?_⟩ <;> exact cellLater hDr (by assumption)) | go_keep) ((first | (go_at_call 31; refine hSo.mono ?_; rintro _ w5 ⟨rfl, hB5⟩; replace hVV := Below.join hVV (Nat.le_refl _) hB5) | (go_at_call 33; refine (hTO _ hVV).mono ?_; rintro _ w5 ⟨rfl, hB5⟩; replace hVV := Below.join hVV (Nat.le_refl _) hB5) | (go_at_call 32; refine (hTF _ hVV).mono ?_; rintro _ w5 ⟨rfl, hB5⟩; replace hVV := Below.join hVV (Nat.le_refl _) hB5)))
        all_goals
          go_wp2_with fail
          go_meet
          case rel => exact ⟨by rw [ev.out], hVV⟩
  case rest =>
    obtain ⟨rfl, hVw⟩ := hcut
    clear hSo hTO hTF
    have hBc := hBV.later hVw
    have d4 := cellLater hVw e4
    have hwc := Below.join hwV (Nat.le_refl _) hVw
    have hbc : Below B0 w wc := hwc.mono hbase
    obtain ⟨bl, ol, rfl, _, hbl, g0, _, _⟩ := hlg (P i).n hk
    obtain ⟨to0, to1⟩ := hR.to i hi (P i).n hk
    obtain ⟨q, hq⟩ : ∃ q : Nat, ((f i).leg (P i).n).to = (q : Int) := ⟨((f i).leg (P i).n).to.toNat, by omega⟩
    have hqs : Hid (stOf f P i = (q : Int)) := hq
    rw [hq] at g0 to1
    have hq' : Hid _ := hq
    clear hq to0
    replace g0 := cellBelow hbc hbl g0
    have hst := hR.st
    have hk0 : (0 : Int) ≤ ((P i).n : Int) := by omega
    have hk' : ((P i).n : Int) < ((f i).nl : Int) := by omega
    have hl6 := hQ.l1
    have hEb := hBI.E hR hQ hl6
    have hneb : ∀ x, (R x).ne ≤ 20 := fun x => by have := hBI.ne x; omega
    have hqE : Hid (0 ≤ (R (q : Int)).E ∧ (R (q : Int)).E ≤ 100) := by unfold Hid; have := hEb (q : Int); omega
    have hqN : Hid ((R (q : Int)).ne ≤ 100) := by unfold Hid; have := hneb (q : Int); omega
    have hIc : IsInts 0 B0 wc a len g := hI.below hbc (Nat.le_refl _)
    have hTc : IsTrains 0 B0 wc (some ⟨bt, ot, none⟩) np f := hT.below hbc (Nat.le_refl _)
    have hSt := stationFreeBd hBc g q low (by omega) (by omega) (by omega) hIc hqE.out hqN.out (fun x hx => hBI.el _ x hx)
    clear x3 r0 x4 e0 e1 e2 e3 e4 hBV hA1
    go_wp2_with (go_at_call 34; refine hSt.mono ?_; rintro _ w5 (⟨rfl, hg5, hb5⟩ | ⟨t, r, rfl, hSF, hlt, hrE, hrn, hBd5, hbl5, hst5⟩))
    · have hall : Hid (∀ t, low ≤ t → fullAt np g f P (stOf f P i) t) := by
        unfold Hid
        rw [hqs.out]
        exact hBI.si.never hlowb.1 (by rw [Int.toNat_natCast]; exact hg5)
      go_wp2
      go_ret
      exact Or.inl ⟨by rw [hlo'.out]; exact hall.out, rfl, hbc.trans hb5⟩
    · have hfirst : IsFirst np g f P (stOf f P i) low t := by
        rw [hqs.out]
        exact hBI.si.first hlowb.1 (by rw [Int.toNat_natCast]; exact hSF) (by rw [Int.toNat_natCast]; exact hlt)
      have hmore := hQ.more hR hG hi hk (by rw [hlo'.out]; exact hfirst) hk10 hl
      have ht0 := hmore.1.l0
      have ht6 := hmore.1.l1
      have hrd2 : readyOf f P i (P i).n ≤ low := by rw [hrd'.out]; exact hrle
      have hE1 : ∀ x, ((fun y => if y = (q : Int) then r else R y) x).E = (R x).E := fun x => by
        by_cases e : x = (q : Int)
        · subst e; simp only [if_pos]; exact hrE
        · simp only [if_neg e]
      have hN1 : ∀ x, ((fun y => if y = (q : Int) then r else R y) x).ne ≤ 20 := fun x => by
        by_cases e : x = (q : Int)
        · subst e; simp only [if_pos]; exact Nat.le_trans hrn (hneb _)
        · simp only [if_neg e]; exact hneb x
      have hTd : IsTrains 0 B0 w5 (some ⟨bt, ot, none⟩) np f := hTc.below hbl5 (Nat.le_refl _)
      have hbeg := begin_any B0 b gR bT bS a len cap g gap (some ⟨bt, ot, none⟩) np cap' nc f v P last (n + 1) T (fun y => if y = (q : Int) then r else R y) i t w5 hR hG hi hk ht0 ht6
        (fun x => by rw [hE1]; have := hEb x; omega) (fun h0 => by rw [hE1]; exact hBI.ahead hl6 hi h0 hk) (fun x => Nat.le_trans (hN1 x) (by omega)) (by omega) hn10 hBd5 hTd
      have hfin : ∀ R', Rl (fun y => if y = (q : Int) then r else R y) R' (stepE f P i (fun y => ((fun y => if y = (q : Int) then r else R y) y).E)) (stepL f P i t (fun y => listE ((fun y => if y = (q : Int) then r else R y) y))) 2 → BI np f (moreP P i t) gap t (fun y => if y = trackOf (f i) (P i).n then ⟨i, t, t + ((f i).leg (P i).n).run + gap⟩ else T y) R' (k + 1) := fun R' hRl =>
        hBI.step hR hG hi hk hlowb.1 hlo'.out.symm ht0 ht6 hrd2 (by rw [Int.toNat_natCast]; exact hSF) hrE hrn hRl
      have hfin' : Hid _ := hfin
      have hf' : Hid _ := hfirst
      clear hfin hE1 hN1 hst5 hSF hlt hrE hrn hfirst hmore hrd2
      go_wp2_with (go_at_call 35; refine hbeg.mono ?_; rintro _ w6 ⟨rfl, v', R', n', hn', hBd6, hRl6, hbl6⟩)
      go_ret
      exact Or.inr ⟨t, v', _, R', n', by rw [hlo'.out]; exact hf'.out, rfl, by omega, hBd6, hfin'.out R' hRl6, (hbc.trans hbl5).trans hbl6⟩
end Go.Proofs.YtnjaegeapcijpaaDoor

namespace Go.Proofs.YtnjaegeapcijpaaDoor
open Go.RowKit

theorem cells_at {W : World} {k : Nat} {cs : Array Value} {t : TypeId} (h : W.heap[k]? = some (.cells cs t)) {o : Nat} {u : Value} (hu : cs[o]? = some u) : W.cell? ⟨k, o, none⟩ = some u ∧ W.frozen? ⟨k, o, none⟩ = false := by
  constructor
  · simp [World.cell?, h, hu]
  · simp [World.frozen?, h]
theorem kv_new {W : World} {k : TypeId} {b : Nat} {z : Value} (h : W.heap[b]? = some (.map #[] 0)) : KV k W b 0 z (fun _ => z) := by
  have hb : b < W.heap.size := by
    rcases Nat.lt_or_ge b W.heap.size with h' | h'
    · exact h'
    · rw [Array.getElem?_eq_none h'] at h; cases h
  have h0 := KV.made k { W with heap := W.heap.extract 0 b } z
  have hs : ({ W with heap := W.heap.extract 0 b } : World).heap.size = b := by simp; omega
  rw [hs] at h0
  refine h0.same ?_
  have h1 := Go.heap_alloc_new ({ W with heap := W.heap.extract 0 b } : World) (.map #[] 0)
  rw [hs] at h1
  rw [h, h1]
theorem bd_new {B0 : Nat} {W : World} {B gR bT bS : Nat} {a : Option Addr} {len cap : Nat} {gap : Int} {a' : Option Addr} {np cap' : Nat} (hB : W.heap[B]? = some (.cells #[.slice a len cap, .int .i64 gap, .slice a' np cap', .slice (some ⟨gR, 0, none⟩) np np, .int .i64 0, .map (some bT), .map (some bS)] 54))
    (hg : W.heap[gR]? = some (.cells (madeCells #[.slice none 0 0] np) 23)) (hT : W.heap[bT]? = some (.map #[] 0)) (hS : W.heap[bS]? = some (.map #[] 0)) (hd : B0 < B ∧ B0 < gR ∧ B0 < bT ∧ B0 < bS ∧ B ≠ gR ∧ B ≠ bT ∧ B ≠ bS ∧ gR ≠ bT ∧ gR ≠ bS ∧ bT ≠ bS) :
    Bd B0 W B gR bT bS a len cap gap a' np cap' np (fun _ => .slice none 0 0) (fun _ => ⟨0, fun _ => 0⟩) 0 0 (fun _ => ⟨0, 0, 0⟩) (fun _ => ⟨0, none, 0, 0, fun _ => 0⟩) := by
  obtain ⟨d0, d1, d2, d3, d4, d5, d6, d7, d8, d9⟩ := hd
  have hgl : gR < W.heap.size := by
    rcases Nat.lt_or_ge gR W.heap.size with h' | h'
    · exact h'
    · rw [Array.getElem?_eq_none h'] at hg; cases hg
  have hrow : ∀ j, j < np → (madeCells #[Value.slice none 0 0] np)[j]? = some (.slice none 0 0) := fun j hj => by
    rw [← Array.getElem?_toList, toList_madeCells_one, List.getElem?_replicate, if_pos hj]
  refine ⟨⟨⟨(cells_at hB rfl).1, (cells_at hB rfl).1, (cells_at hB rfl).1, (cells_at hB rfl).1, (cells_at hB rfl).1⟩, (cells_at (o := 4) hB rfl).2, fun j hj => ⟨rfl, (cells_at hg (hrow j hj)).1, (cells_at hg (hrow j hj)).2⟩, fun j hj => World.ownsRow_nil _ _ _ _, fun j k _ _ _ => Or.inl rfl, fun j hj => ⟨fun e => (by cases e), fun e => (by cases e)⟩, d4, by omega, by omega⟩,
    (cells_at hB rfl).1, (cells_at hB rfl).1, kv_new hT, kv_new hS, fun x => World.ownsRow_nil _ _ _ _, fun x k h0 h1 => absurd h1 (Nat.not_lt_zero k), fun _ _ _ => Or.inl rfl, fun _ _ _ => Or.inl rfl, fun x k e => (by cases e), fun j _ k e => (by cases e), ⟨d5, d6, d7, d8, d9⟩, ⟨by omega, by omega⟩, hgl⟩
theorem bi_new (np : Nat) (f : Nat → TrainD) (gap : Int) : BI np f (fun _ => ⟨0, fun _ => 0⟩) gap 0 (fun _ => ⟨0, 0, 0⟩) (fun _ => ⟨0, none, 0, 0, fun _ => 0⟩) 0 := by
  refine ⟨⟨fun x => Or.inl ⟨fun j hj m hm => absurd hm (Nat.not_lt_zero m), rfl⟩, fun j hj m hm => absurd hm (Nat.not_lt_zero _)⟩, ?_, fun x => Nat.le_refl _, fun x e he => ?_⟩
  · exact (SI.start np f 0).perm (fun _ => rfl) (fun _ => List.Perm.refl _)
  · cases he
end Go.Proofs.YtnjaegeapcijpaaDoor

namespace Go.Proofs.YtnjaegeapcijpaaDoor
open Go.RowKit

theorem sum_le {f : Nat → TrainD} {P : Nat → RowD} : ∀ {n : Nat}, (∀ j, j < n → (P j).n ≤ (f j).nl) → rowSumQ P n ≤ legSum f n
  | 0, _ => Nat.le_refl _
  | n + 1, h => by
    have h1 := sum_le (n := n) (fun j hj => h j (by omega))
    have h2 := h n (by omega)
    simp only [rowSumQ, legSum]; omega
theorem sum_eq {f : Nat → TrainD} {P : Nat → RowD} : ∀ {n : Nat}, (∀ j, j < n → (P j).n ≤ (f j).nl) → (rowSumQ P n = legSum f n ↔ ∀ j, j < n → (P j).n = (f j).nl)
  | 0, _ => ⟨fun _ j hj => absurd hj (Nat.not_lt_zero j), fun _ => rfl⟩
  | n + 1, h => by
    have ih := sum_eq (n := n) (fun j hj => h j (by omega))
    have h1 := sum_le (n := n) (fun j hj => h j (by omega))
    have h2 := h n (by omega)
    simp only [rowSumQ, legSum]
    constructor
    · intro e j hj
      rcases Nat.lt_or_ge j n with h3 | h3
      · exact ih.1 (by omega) j h3
      · obtain rfl : j = n := by omega
        omega
    · intro e
      have h3 := ih.2 (fun j hj => e j (by omega))
      have h4 := e n (by omega)
      omega
theorem moreB_no {np : Nat} {f : Nat → TrainD} {P : Nat → RowD} (hle : ∀ j, j < np → (P j).n ≤ (f j).nl) : (∀ j : Nat, j < np → moreB np f P (j : Int) = false) ↔ rowSumQ P np = legSum f np := by
  rw [sum_eq hle]
  constructor
  · intro h j hj
    have h1 := h j hj
    unfold moreB at h1
    have e1 : inB (j : Int) 0 ((np : Int) - 1) = true := decide_eq_true ⟨by omega, by omega⟩
    rw [e1, Int.toNat_natCast, Bool.true_and] at h1
    have := of_decide_eq_false h1
    have := hle j hj
    omega
  · intro h j hj
    unfold moreB
    rw [Int.toNat_natCast, decide_eq_false (by have := h j hj; omega), Bool.and_false]

set_option maxRecDepth 20000 in
set_option maxHeartbeats 4000000 in
theorem implPlace_line (a : Option Addr) (len cap : Nat) (g : Nat → Int) (gap : Int) (a' : Option Addr) (np cap' : Nat) (f : Nat → TrainD) (oa : Option Addr) (no oc : Nat) (o : Nat → Int) (w : World) (hl : len ≤ 1048576) (hl' : np ≤ 1048576) (hml : ∀ j, j < np → (f j).nl ≤ 1048576)
    (hI : IsInts 0 w.heap.size w a len g) (hT : IsTrains 0 w.heap.size w a' np f) (hno : no ≤ 1048576) (hg : w.cell? ⟨0, 0, none⟩ = some (.iface 121 (.agg #[.pointer (some ⟨1, 96, none⟩)]))) (hbad : ¬ ((faultOf len g gap np f).1 = 0 ∧ no ≤ 10)) :
    Calls Tryd.prog 6 #[.agg #[.slice a len cap, .int .i64 gap, .slice a' np cap'], .slice oa no oc] w fun e w' => (∃ v, e = .returned v ∧ IsPlaced w.heap.size w' (placeSt len g gap np f no o) np v) ∧ Below w.heap.size w w' := by
  have hst : placeSt len g gap np f no o = ⟨1, 0, fun _ => ⟨0, fun _ => 0⟩, 0⟩ := by unfold placeSt; rw [if_neg hbad]
  rw [hst]
  have hN := b2 w (.cells #[.slice a len cap, .int .i64 gap, .slice a' np cap'] 26) (.cells #[.int .i64 0, .int .i64 0, .slice none 0 0] 33)
  obtain ⟨⟨y0, y1, y2⟩, hRm⟩ := box31 w a len cap gap a' np cap' 26 33
  have lR : w.heap.size + 1 < ((w.alloc (.cells #[.slice a len cap, .int .i64 gap, .slice a' np cap'] 26)).alloc (.cells #[.int .i64 0, .int .i64 0, .slice none 0 0] 33)).heap.size := by simp
  by_cases hF : (faultOf len g gap np f).1 = 0
  · have hn : ¬ no ≤ 10 := fun h => hbad ⟨hF, h⟩
    have hn' : (10 : Int) < (no : Int) := by omega
    have hok := isRight_yes a len cap g gap a' np cap' f _ hl hl' hml (hI.grow hN) (hT.grow hN) (cellLater hN hg) (faultOf_snd hF)
    go_enter Tryd.func6, Tryd.ntmps6
    go_wp2_with (go_at_call 12; refine hok.mono ?_; rintro _ w2 ⟨rfl, hB2⟩; obtain ⟨v0, m0, z0⟩ := (hRm.below hB2 lR) 0 (by omega); obtain ⟨v1, m1, z1⟩ := (hRm.below hB2 lR) 1 (by omega); obtain ⟨v2, m2, z2⟩ := (hRm.below hB2 lR) 2 (by omega))
    refine bodyPost_ret (v := .agg #[.int .i64 1, .int .i64 0, .slice none 0 0]) (by simp [results, Tryd.results6, go_sem, m0, m1, m2]) rfl ⟨⟨_, rfl, .slice none 0 0, rfl, fun _ => rfl, fun h => by simp at h⟩, ?_⟩
    exact below_set3 (Below.join hN (Nat.le_refl _) hB2) (by omega) _ _ _
  · have hok := isRight_no a len cap g gap a' np cap' f _ hl hl' hml (hI.grow hN) (hT.grow hN) (cellLater hN hg) hF
    go_enter Tryd.func6, Tryd.ntmps6
    go_wp2_with (go_at_call 12; refine hok.mono ?_; rintro _ w2 ⟨rfl, hB2⟩; obtain ⟨v0, m0, z0⟩ := (hRm.below hB2 lR) 0 (by omega); obtain ⟨v1, m1, z1⟩ := (hRm.below hB2 lR) 1 (by omega); obtain ⟨v2, m2, z2⟩ := (hRm.below hB2 lR) 2 (by omega))
    refine bodyPost_ret (v := .agg #[.int .i64 1, .int .i64 0, .slice none 0 0]) (by simp [results, Tryd.results6, go_sem, m0, m1, m2]) rfl ⟨⟨_, rfl, .slice none 0 0, rfl, fun _ => rfl, fun h => by simp at h⟩, ?_⟩
    exact below_set3 (Below.join hN (Nat.le_refl _) hB2) (by omega) _ _ _
end Go.Proofs.YtnjaegeapcijpaaDoor

namespace Go.Proofs.YtnjaegeapcijpaaDoor
open Go.RowKit

set_option maxRecDepth 20000 in
set_option maxHeartbeats 8000000 in
theorem implPlace_main (a : Option Addr) (len cap : Nat) (g : Nat → Int) (gap : Int) (a' : Option Addr) (np cap' : Nat) (f : Nat → TrainD) (oa : Option Addr) (no oc : Nat) (o : Nat → Int) (w : World) (hl : len ≤ 1048576) (hl' : np ≤ 1048576) (hml : ∀ j, j < np → (f j).nl ≤ 1048576)
    (hI : IsInts 0 w.heap.size w a len g) (hT : IsTrains 0 w.heap.size w a' np f) (hO : IsInts 0 w.heap.size w oa no o) (hg : w.cell? ⟨0, 0, none⟩ = some (.iface 121 (.agg #[.pointer (some ⟨1, 96, none⟩)]))) (hF : faultOf len g gap np f = (0, 0)) (hno : no ≤ 10) :
    Calls Tryd.prog 6 #[.agg #[.slice a len cap, .int .i64 gap, .slice a' np cap'], .slice oa no oc] w fun e w' => (∃ v, e = .returned v ∧ IsPlaced w.heap.size w' (placeSt len g gap np f no o) np v) ∧ Below w.heap.size w w' := by
  have hR := rightL_of hF
  have hG := rightG_of hF
  have htr := hR.tr
  have hst : placeSt len g gap np f no o = if (runP np g f gap o no).code ≠ 0 then runP np g f gap o no else if no = legSum f np then runP np g f gap o no else ⟨4, no, (runP np g f gap o no).P, (runP np g f gap o no).last⟩ := by unfold placeSt; rw [if_pos ⟨by rw [hF], hno⟩]
  have hst' : Hid _ := hst
  generalize placeSt len g gap np f no o = ST at hst'
  clear hst
  have hN := b2 w (.cells #[.slice a len cap, .int .i64 gap, .slice a' np cap'] 26) (.cells #[.int .i64 0, .int .i64 0, .slice none 0 0] 33)
  obtain ⟨⟨y0, y1, y2⟩, hRm⟩ := box31 w a len cap gap a' np cap' 26 33
  have hok := isRight_yes a len cap g gap a' np cap' f _ hl hl' hml (hI.grow hN) (hT.grow hN) (cellLater hN hg) hF
  have hno' : ¬ ((10 : Int) < (no : Int)) := by omega
  have lR : w.heap.size + 1 < ((w.alloc (.cells #[.slice a len cap, .int .i64 gap, .slice a' np cap'] 26)).alloc (.cells #[.int .i64 0, .int .i64 0, .slice none 0 0] 33)).heap.size := by simp
  go_enter Tryd.func6, Tryd.ntmps6
  go_wp2_with (first | (go_at_call 12; refine hok.mono ?_; rintro _ w2 ⟨rfl, hB2⟩; have hBw := Below.join hN (Nat.le_refl _) hB2; replace y0 := cellLater hB2 y0; replace y1 := cellLater hB2 y1; replace y2 := cellLater hB2 y2; replace hRm := hRm.below hB2 lR; have lR2 := Nat.lt_of_lt_of_le lR hB2.size) | (go_at_call 13; refine (newBoard_any a len cap gap a' np cap' w2 (by omega)).mono ?_; rintro _ W ⟨B, gR, bT, bS, rfl, hb1, hb2, hb3, hb4, hd, hB3⟩; have hBd0 := bd_new hb1 hb2 hb3 hb4 hd; clear hb1 hb2 hb3 hb4 hd; replace hBw := Below.join hBw (Nat.le_refl _) hB3; replace hRm := hRm.below hB3 lR2))
  have hWs : w2.heap.size ≤ W.heap.size := hB3.size
  clear hok hB2 hN hB3 hno' y0 y1 y2
  go_loopw [22] (fun kk wr => ∃ (k : Nat) (v : Nat → Value) (T : Int → TrackD) (R : Int → RoomD) (n : Nat), k ≤ no ∧ kk = .int .i64 k ∧ (runP np g f gap o k).code = 0 ∧ RunOk len np g f gap (runP np g f gap o k) k ∧ Bd w2.heap.size wr B gR bT bS a len cap gap a' np cap' np v (runP np g f gap o k).P (runP np g f gap o k).last n T R ∧ BI np f (runP np g f gap o k).P gap (runP np g f gap o k).last T R k ∧ n ≤ 5 * k ∧ Below w2.heap.size W wr) (fun kk _ => no - (intOf kk).toNat)
  case atStart => exact ⟨0, _, _, _, 0, Nat.zero_le _, rfl, rfl, runP_zero np g f gap o len, hBd0, bi_new np f gap, Nat.le_refl _, Below.refl _ _⟩
  case round =>
    obtain ⟨k, v, T, R, n, hk, rfl, hcode, hrun, hB, hBI, hn5, hBr⟩ := hrel
    clear hBd0
    have hlw : w.heap.size ≤ w2.heap.size := by omega
    have hBwr : Below w.heap.size w wr := hBw.trans (hBr.mono hlw)
    have hbase := hB.base
    have hIw : IsInts 0 w2.heap.size wr a len g := (hI.below hBwr (Nat.le_refl _)).mono (Nat.le_refl 0) hlw
    have hTw : IsTrains 0 w2.heap.size wr a' np f := (hT.below hBwr (Nat.le_refl _)).mono (Nat.le_refl 0) hlw
    have hTs : IsTrains 0 wr.heap.size wr a' np f := hTw.mono (Nat.le_refl 0) hbase
    have hRw := hRm.below hBr (by omega)
    have hn10 : ∀ j, j < np → ((runP np g f gap o k).P j).n ≤ 10 := fun j hj => Nat.le_trans (hrun.part.le j hj) (hR.train j hj).nl
    by_cases hlt : k < no
    · have hk' : (k : Int) < (no : Int) := by omega
      have hk0 : (0 : Int) ≤ (k : Int) := by omega
      obtain ⟨bo, oo, rfl, _, _, qo⟩ := hO k hlt
      replace qo := (hBwr.cell (p := ⟨bo, oo + k, none⟩) (by dsimp only; omega)).trans qo
      have hrun1 : runP np g f gap o (k + 1) = stepP np g f gap (o k) k (runP np g f gap o k) := rfl
      have hstick : ∀ st : StP, runP np g f gap o (k + 1) = st → st.code ≠ 0 → runP np g f gap o no = st := fun st h1 h2 => by
        have := runP_stick (np := np) (g := g) (f := f) (gap := gap) (o := o) (k := k + 1) (by rw [h1]; exact h2) (no - (k + 1))
        rw [show k + 1 + (no - (k + 1)) = no by omega, h1] at this
        exact this
      have hrun1' : Hid _ := hrun1
      have hstick' : Hid _ := hstick
      clear hrun1 hstick
      generalize hst0 : runP np g f gap o k = st at hcode hrun hB hBI hn10
      rw [hst0] at hrun1'
      clear hst0
      generalize o k = ok at qo hrun1'
      have hpart := hrun.part
      cases hm : moreB np f st.P ok
      · have hstv : Hid (ST = ⟨2, k, st.P, st.last⟩) := by
          unfold Hid
          have h1 : runP np g f gap o (k + 1) = ⟨2, k, st.P, st.last⟩ := by
            rw [hrun1'.out]
            unfold stepP
            rw [if_neg (by simp [hcode])]
            cases hin : inB ok 0 ((np : Int) - 1)
            · rw [if_neg (by simp)]
            · obtain ⟨h00, h01⟩ := of_decide_eq_true hin
              have hle := hpart.le ok.toNat (by omega)
              unfold moreB at hm
              rw [hin, Bool.true_and] at hm
              have hge := of_decide_eq_false hm
              rw [if_pos rfl, nextOf_two (by omega), if_neg (by simp)]
          have h2 := hstick'.out _ h1 (by simp)
          rw [hst'.out, h2, if_pos (by simp)]
        have hPl := place_no B a len cap gap a' np cap' f (some ⟨gR, 0, none⟩) np st.P st.last ok wr hR hB.lp.l2 hTs (hB.lp.rows hn10) hm
        obtain ⟨r0, rm0, rz0⟩ := hRw 0 (by omega)
        obtain ⟨r1, rm1, rz1⟩ := hRw 1 (by omega)
        obtain ⟨r2, rm2, rz2⟩ := hRw 2 (by omega)
        clear hm hrun1' hstick'
        go_wp2_with (go_at_call 14; refine hPl.mono ?_; rintro _ w5 ⟨rfl, hB5⟩; replace rz0 := (hB5.frozen (ltCell rm0)).trans rz0; replace rz1 := (hB5.frozen (ltCell rm1)).trans rz1; replace rz2 := (hB5.frozen (ltCell rm2)).trans rz2; replace rm0 := cellLater hB5 rm0; replace rm1 := cellLater hB5 rm1; replace rm2 := cellLater hB5 rm2)
        refine bodyPost_ret (v := .agg #[.int .i64 2, .int .i64 k, .slice none 0 0]) (by simp [results, Tryd.results6, go_sem, rm0, rm1, rm2]) rfl ⟨⟨_, rfl, .slice none 0 0, by rw [hstv.out], fun _ => rfl, fun h => by rw [hstv.out] at h; simp at h⟩, below_set3 (Below.join hBwr (Nat.le_refl _) hB5) (by omega) _ _ _⟩
      · unfold moreB at hm
        simp only [Bool.and_eq_true] at hm
        obtain ⟨hin, hlt2⟩ := hm
        obtain ⟨h00, h01⟩ := of_decide_eq_true hin
        obtain ⟨i, hi⟩ : ∃ i : Nat, ok = (i : Int) := ⟨ok.toNat, by omega⟩
        subst hi
        rw [Int.toNat_natCast] at hlt2
        have hnlt := of_decide_eq_true hlt2
        have hip : i < np := by omega
        clear h00 h01 hlt2
        have hnn : (st.P i).n ≠ (f i).nl := by omega
        have hk10 : k < 10 := by omega
        have hbad : ∀ cc : Int, cc ≠ 0 → nextOf np g f st.P gap st.last i = (cc, 0) → ST = ⟨cc, k, st.P, st.last⟩ := fun cc hc hn => by
          have h1 : runP np g f gap o (k + 1) = ⟨cc, k, st.P, st.last⟩ := by rw [hrun1'.out]; unfold stepP; rw [if_neg (by simp [hcode]), if_pos hin, Int.toNat_natCast, hn, if_neg (by simpa using hc)]
          have h2 := hstick'.out _ h1 hc
          rw [hst'.out, h2, if_pos hc]
        have hbad' : Hid _ := hbad
        have hin' : Hid _ := hin
        clear hbad hin hstick'
        have hPl := place_main w2.heap.size B gR bT bS a len cap g gap a' np cap' np f v st.P st.last n T R k i wr hR hG hpart hip hnlt hk10 hrun.lb (by omega) hB hBI hIw hTw
        obtain ⟨r0, rm0, rz0⟩ := hRw 0 (by omega)
        obtain ⟨r1, rm1, rz1⟩ := hRw 1 (by omega)
        obtain ⟨r2, rm2, rz2⟩ := hRw 2 (by omega)
        go_wp2_with (go_at_call 14; refine hPl.mono ?_; rintro _ w5 hpost; have hb5 : Below w2.heap.size wr w5 := (by rcases hpost with ⟨_, _, h⟩ | ⟨_, _, _, _, _, _, _, _, _, _, h⟩ <;> exact h); replace rz0 := (hb5.frozen (p := ⟨w.heap.size + 1, 0, none⟩) lR2).trans rz0; replace rz1 := (hb5.frozen (p := ⟨w.heap.size + 1, 1, none⟩) lR2).trans rz1; replace rz2 := (hb5.frozen (p := ⟨w.heap.size + 1, 2, none⟩) lR2).trans rz2; replace rm0 := (hb5.cell (p := ⟨w.heap.size + 1, 0, none⟩) lR2).trans rm0; replace rm1 := (hb5.cell (p := ⟨w.heap.size + 1, 1, none⟩) lR2).trans rm1; replace rm2 := (hb5.cell (p := ⟨w.heap.size + 1, 2, none⟩) lR2).trans rm2; rcases hpost with (⟨hall, rfl, _⟩ | ⟨t, v', T', R', n', hfst, rfl, hn', hB5, hBI5, hbl5⟩))
        · have hstv : Hid (ST = ⟨3, k, st.P, st.last⟩) := hbad'.out 3 (by decide) (nextOf_three hnn hall)
          clear hbad' hrun1' hall
          go_wp2
          refine bodyPost_ret (v := .agg #[.int .i64 3, .int .i64 k, .slice none 0 0]) (by simp [results, Tryd.results6, go_sem, rm0, rm1, rm2]) rfl ⟨⟨_, rfl, .slice none 0 0, by rw [hstv.out], fun _ => rfl, fun h => by rw [hstv.out] at h; simp at h⟩, below_set3 (hBwr.trans (hb5.mono hlw)) (by omega) _ _ _⟩
        · have hstp := runOk_step hR hG hrun hcode hip hnlt hfst hk10
          have hr1 : Hid (runP np g f gap o (k + 1) = ⟨0, 0, moreP st.P i t, t⟩) := by unfold Hid; rw [hrun1'.out]; exact hstp.1
          have hr2 : Hid _ := hstp.2
          clear hbad' hrun1' hstp hfst
          go_wp2
          go_roundw
          case rel => exact ⟨k + 1, v', T', R', n', by omega, by go_num, by rw [hr1.out], by rw [hr1.out]; exact hr2.out, by rw [hr1.out]; exact hB5, by rw [hr1.out]; exact hBI5, by omega, hBr.trans hbl5⟩
          case measure => simp [intOf]; omega
    · obtain rfl : k = no := by omega
      have hsum := hrun.sum
      have hWh := isWhole_any B a len cap gap a' np cap' f (some ⟨gR, 0, none⟩) np (runP np g f gap o k).P (runP np g f gap o k).last wr hR hB.lp.l2 hTs (hB.lp.rows hn10)
      have hiff := moreB_no (f := f) hrun.part.le
      obtain ⟨r0, rm0, rz0⟩ := hRw 0 (by omega)
      obtain ⟨r1, rm1, rz1⟩ := hRw 1 (by omega)
      obtain ⟨r2, rm2, rz2⟩ := hRw 2 (by omega)
      have hown := hB.lp.ownP
      have x3 := hB.lp.l2.c3
      by_cases hkl : k = legSum f np
      · have hstv : Hid (ST = runP np g f gap o k) := by unfold Hid; rw [hst'.out, if_neg (by simp [hcode]), if_pos hkl]
        have hat : Hid ((runP np g f gap o k).at_ = 0) := runP_at k hcode
        have hall := hiff.2 (hsum.trans hkl)
        have hWh2 : Calls Tryd.prog 15 #[.pointer (some ⟨B, 0, none⟩)] wr fun e w' => e = .returned (.bool true) ∧ Below wr.heap.size wr w' := hWh.mono (fun e w' ⟨⟨r, he, hr⟩, hb⟩ => ⟨by rw [he, hr.2 hall], hb⟩)
        clear hkl hiff hall hWh hsum
        go_wp2_with (go_at_call 15; refine hWh2.mono ?_; rintro _ w5 ⟨rfl, hB5⟩; replace rz0 := (hB5.frozen (ltCell rm0)).trans rz0; replace rz1 := (hB5.frozen (ltCell rm1)).trans rz1; replace rz2 := (hB5.frozen (ltCell rm2)).trans rz2; replace rm0 := cellLater hB5 rm0; replace rm1 := cellLater hB5 rm1; replace rm2 := cellLater hB5 rm2; replace x3 := cellLater hB5 x3; replace hown := hown.later hB5)
        refine bodyPost_ret (v := .agg #[.int .i64 0, .int .i64 0, .slice (some ⟨gR, 0, none⟩) np np]) (by simp [results, Tryd.results6, go_sem, rm0, rm1, rm2]) rfl ⟨⟨_, rfl, .slice (some ⟨gR, 0, none⟩) np np, by rw [hstv.out, hcode, hat.out]; rfl, fun h => by rw [hstv.out] at h; exact absurd hcode h, fun _ => ⟨_, _, rfl, ?_, ?_⟩⟩, below_set3 (Below.join hBwr (Nat.le_refl _) hB5) (by omega) _ _ _⟩
        · rw [hstv.out]
          exact (((hown.set (by dsimp only; omega)).set (by dsimp only; omega)).set (by dsimp only; omega)).low (by omega)
        · rw [hstv.out]
          exact hn10
      · have hstv : Hid (ST = ⟨4, k, (runP np g f gap o k).P, (runP np g f gap o k).last⟩) := by unfold Hid; rw [hst'.out, if_neg (by simp [hcode]), if_neg hkl]
        have hWh2 : Calls Tryd.prog 15 #[.pointer (some ⟨B, 0, none⟩)] wr fun e w' => e = .returned (.bool false) ∧ Below wr.heap.size wr w' := hWh.mono (fun e w' ⟨⟨r, he, hr⟩, hb⟩ => ⟨by
          cases r with
          | false => exact he
          | true => exact absurd (hsum.symm.trans (hiff.1 (hr.1 rfl))) hkl, hb⟩)
        clear hkl hiff hWh hsum
        go_wp2_with (go_at_call 15; refine hWh2.mono ?_; rintro _ w5 ⟨rfl, hB5⟩; replace rz0 := (hB5.frozen (ltCell rm0)).trans rz0; replace rz1 := (hB5.frozen (ltCell rm1)).trans rz1; replace rz2 := (hB5.frozen (ltCell rm2)).trans rz2; replace rm0 := cellLater hB5 rm0; replace rm1 := cellLater hB5 rm1; replace rm2 := cellLater hB5 rm2)
        refine bodyPost_ret (v := .agg #[.int .i64 4, .int .i64 k, .slice none 0 0]) (by simp [results, Tryd.results6, go_sem, rm0, rm1, rm2]) rfl ⟨⟨_, rfl, .slice none 0 0, by rw [hstv.out], fun _ => rfl, fun h => by rw [hstv.out] at h; simp at h⟩, below_set3 (Below.join hBwr (Nat.le_refl _) hB5) (by omega) _ _ _⟩

theorem implPlace_any (a : Option Addr) (len cap : Nat) (g : Nat → Int) (gap : Int) (a' : Option Addr) (np cap' : Nat) (f : Nat → TrainD) (oa : Option Addr) (no oc : Nat) (o : Nat → Int) (w : World) (hl : len ≤ 1048576) (hl' : np ≤ 1048576) (hml : ∀ j, j < np → (f j).nl ≤ 1048576) (hno : no ≤ 1048576)
    (hI : IsInts 0 w.heap.size w a len g) (hT : IsTrains 0 w.heap.size w a' np f) (hO : IsInts 0 w.heap.size w oa no o) (hg : w.cell? ⟨0, 0, none⟩ = some (.iface 121 (.agg #[.pointer (some ⟨1, 96, none⟩)]))) :
    Calls Tryd.prog 6 #[.agg #[.slice a len cap, .int .i64 gap, .slice a' np cap'], .slice oa no oc] w fun e w' => (∃ v, e = .returned v ∧ IsPlaced w.heap.size w' (placeSt len g gap np f no o) np v) ∧ Below w.heap.size w w' := by
  by_cases h : (faultOf len g gap np f).1 = 0 ∧ no ≤ 10
  · exact implPlace_main a len cap g gap a' np cap' f oa no oc o w hl hl' hml hI hT hO hg (faultOf_snd h.1) h.2
  · exact implPlace_line a len cap g gap a' np cap' f oa no oc o w hl hl' hml hI hT hno hg h
end Go.Proofs.YtnjaegeapcijpaaDoor
