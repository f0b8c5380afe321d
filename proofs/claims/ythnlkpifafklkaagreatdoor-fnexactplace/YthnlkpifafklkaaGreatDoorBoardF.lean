/-
  The program's board: a train's next leg is begun.
-/
import Derived.Test.YthnlkpifafklkaaGreatDoorGBoard
import Derived.Test.YthnlkpifafklkaaGreatDoorPlansC
import Derived.Deep.RegionLaw
import Derived.Deep.DeepCutAuto
import Derived.Maps.AppendAt
namespace Go.Proofs.YthnlkpifafklkaaGreatDoor
open Go.RowKit

theorem LP.form {B0 : Nat} {W : World} {b gR : Nat} {a : Option Addr} {len cap : Nat} {gap : Int} {a' : Option Addr} {np cap' : Nat} {c : Option Addr} {nc : Nat} {v : Nat → Value} {P : Nat → RowD} {last : Int} (h : LP B0 W b gR a len cap gap a' np cap' c nc v P last) {i : Nat} (hi : i < np) : ∃ lp lpc, v i = .slice lp (P i).n lpc := by
  rcases (h.own i hi).2 with ⟨e0, h0⟩ | ⟨g, cp, cur, e0, _⟩
  · exact ⟨none, 0, by rw [e0, h0]⟩
  · exact ⟨_, _, e0⟩

/-- what a leg begun makes of those that are at the stations for ever -/
def stepE (f : Nat → TrainD) (P : Nat → RowD) (i : Nat) (E : Int → Int) : Int → Int :=
  if (P i).n + 1 < (f i).nl then enterE (if 0 < (P i).n then leaveE E ((f i).leg ((P i).n - 1)).to else E) ((f i).leg (P i).n).to
  else leaveE (enterE (if 0 < (P i).n then leaveE E ((f i).leg ((P i).n - 1)).to else E) ((f i).leg (P i).n).to) ((f i).leg (P i).n).to
/-- and of the ends -/
def stepL (f : Nat → TrainD) (P : Nat → RowD) (i : Nat) (t : Int) (L : Int → List Int) : Int → List Int :=
  if (P i).n + 1 < (f i).nl then (if 0 < (P i).n then leaveL L ((f i).leg ((P i).n - 1)).to t else L)
  else leaveL (if 0 < (P i).n then leaveL L ((f i).leg ((P i).n - 1)).to t else L) ((f i).leg (P i).n).to (t + ((f i).leg (P i).n).run)
structure Rl (R0 R : Int → RoomD) (E : Int → Int) (L : Int → List Int) (c : Nat) : Prop where
  e : ∀ x, (R x).E = E x
  p : ∀ x, (listE (R x)).Perm (L x)
  n : ∀ x, (R x).ne ≤ (R0 x).ne + c
theorem Rl.refl (R : Int → RoomD) : Rl R R (fun y => (R y).E) (fun y => listE (R y)) 0 := ⟨fun _ => rfl, fun _ => List.Perm.refl _, fun _ => Nat.le_refl _⟩
theorem Rl.mono {R0 R : Int → RoomD} {E : Int → Int} {L : Int → List Int} {c c' : Nat} (h : Rl R0 R E L c) (hc : c ≤ c') : Rl R0 R E L c' := ⟨h.e, h.p, fun x => by have := h.n x; omega⟩
theorem Rl.leave {R0 R : Int → RoomD} {E : Int → Int} {L : Int → List Int} {c : Nat} (h : Rl R0 R E L c) {q x : Int} {r : RoomD} (hE : r.E = (R q).E - 1) (hP : (listE r).Perm (x :: listE (R q))) (hn : r.ne = (R q).ne + 1) :
    Rl R0 (fun y => if y = q then r else R y) (leaveE E q) (leaveL L q x) (c + 1) := by
  refine ⟨fun y => ?_, fun y => ?_, fun y => ?_⟩
  · unfold leaveE
    by_cases e : y = q
    · subst e; simp only [if_pos]; rw [hE, h.e]
    · simp only [if_neg e]; exact h.e y
  · unfold leaveL
    by_cases e : y = q
    · subst e; simp only [if_pos]; exact hP.trans ((h.p y).cons x)
    · simp only [if_neg e]; exact h.p y
  · by_cases e : y = q
    · subst e; simp only [if_pos]; rw [hn]; have := h.n y; omega
    · simp only [if_neg e]; have := h.n y; omega
theorem Rl.enter {R0 R : Int → RoomD} {E : Int → Int} {L : Int → List Int} {c : Nat} (h : Rl R0 R E L c) {q : Int} {r : RoomD} (hE : r.E = (R q).E + 1) (hP : (listE r).Perm (listE (R q))) (hn : r.ne = (R q).ne) :
    Rl R0 (fun y => if y = q then r else R y) (enterE E q) L c := by
  refine ⟨fun y => ?_, fun y => ?_, fun y => ?_⟩
  · unfold enterE
    by_cases e : y = q
    · subst e; simp only [if_pos]; rw [hE, h.e]
    · simp only [if_neg e]; exact h.e y
  · by_cases e : y = q
    · subst e; simp only [if_pos]; exact hP.trans (h.p y)
    · simp only [if_neg e]; exact h.p y
  · by_cases e : y = q
    · subst e; simp only [if_pos]; rw [hn]; exact h.n y
    · simp only [if_neg e]; exact h.n y
theorem track_bd {len np : Nat} {g : Nat → Int} {gap : Int} {f : Nat → TrainD} (hR : RightL len np f) (hG : RightG len g gap np f) {i k : Nat} (hi : i < np) (hk : k < (f i).nl) : 0 ≤ trackOf (f i) k ∧ trackOf (f i) k ≤ 12 := by
  have hst := hR.st
  have h1 := hR.to i hi k hk
  have h2 : 0 ≤ cur (f i) k ∧ cur (f i) k < len := by
    cases k with
    | zero => exact hG.frm i hi
    | succ m => exact hR.to i hi m (by omega)
  unfold trackOf
  split <;> omega
theorem cellGrown {W W' : World} {row : Option Nat} {k o : Nat} {u : Value} (hg : W.grownBy W' row) (hne : some k ≠ row) (hc : W.cell? ⟨k, o, none⟩ = some u) : W'.cell? ⟨k, o, none⟩ = some u :=
  (World.cell?_of_block (w := W) (w' := W') (a := ⟨k, o, none⟩) (hg.block k (ltCell hc) hne)).trans hc
theorem cellBelow {W W' : World} {B k o : Nat} {u : Value} (hb : Below B W W') (hk : k < B) (hc : W.cell? ⟨k, o, none⟩ = some u) : W'.cell? ⟨k, o, none⟩ = some u := (hb.cell (p := ⟨k, o, none⟩) hk).trans hc

set_option maxRecDepth 20000 in
set_option maxHeartbeats 16000000 in
theorem begin_any (B0 b gR bT bS : Nat) (a : Option Addr) (len cap : Nat) (g : Nat → Int) (gap : Int) (a' : Option Addr) (np cap' nc : Nat) (f : Nat → TrainD) (v : Nat → Value) (P : Nat → RowD) (last : Int) (n : Nat) (T : Int → TrackD) (R : Int → RoomD) (i : Nat) (t : Int) (w : World)
    (hR : RightL len np f) (hG : RightG len g gap np f) (hi : i < np) (hk : (P i).n < (f i).nl) (ht0 : 0 ≤ t) (ht1 : t ≤ 600000)
    (hE0 : ∀ x, 0 ≤ (R x).E ∧ (R x).E ≤ 90) (hE1 : 0 < (P i).n → 1 ≤ (R ((f i).leg ((P i).n - 1)).to).E) (hne : ∀ x, (R x).ne ≤ 90) (hn9 : n ≤ 900) (hPn : ∀ j, j < np → (P j).n ≤ 10)
    (hB : Bd B0 w b gR bT bS a len cap gap a' np cap' nc v P last n T R) (hT : IsTrains 0 B0 w a' np f) :
    Calls Tryz.prog 68 #[.pointer (some ⟨b, 0, none⟩), .int .i64 i, .int .i64 t] w fun e w' => e = .returned (.tuple #[]) ∧ ∃ v' R' n', n' ≤ n + 4 ∧ Bd B0 w' b gR bT bS a len cap gap a' np cap' nc v' (moreP P i t) t n' (fun y => if y = trackOf (f i) (P i).n then ⟨i, t, t + ((f i).leg (P i).n).run + gap⟩ else T y) R' ∧ Rl R R' (stepE f P i (fun y => (R y).E)) (stepL f P i t (fun y => listE (R y))) 2 ∧ Below B0 w w' := by
  have htr := hR.tr
  have hRi := hR.train i hi
  have hnl := hRi.nl
  have hi' : (i : Int) < (np : Int) := by omega
  have hi0 : (0 : Int) ≤ (i : Int) := by omega
  obtain ⟨lp, lpc, hvf⟩ := hB.lp.form hi
  have x0 := hB.lp.l2.c0
  have x1 := hB.lp.l2.c1
  have x2 := hB.lp.l2.c2
  have x3 := hB.lp.l2.c3
  have hrow := (hB.lp.row i hi).2
  have r0 := hrow.1
  have rz := hrow.2
  rw [hvf] at r0
  obtain ⟨bt, ot, la, lc, rfl, _, hbt, t0, t1, t2, t3, t4, hlg, _⟩ := hT i hi
  have hA1 := b1 w (.cells #[.int .i64 (f i).frm, .int .i64 (f i).ready, .int .i64 (f i).due, .int .i64 (f i).weight, .slice la (f i).nl lc] 90)
  have hTb := Go.heap_alloc_new w (.cells #[.int .i64 (f i).frm, .int .i64 (f i).ready, .int .i64 (f i).due, .int .i64 (f i).weight, .slice la (f i).nl lc] 90)
  have lb := ltCell x3
  have lg := hB.gr
  dsimp only at lb
  go_enter Tryz.func68, Tryz.ntmps68
  go_wp2
  refine nameW fun V hV => ?_
  rw [← hV] at hA1 hTb
  have e0 := cell_of_row V w.heap.size 0 _ _ _ hTb
  have e1 := cell_of_row V w.heap.size 1 _ _ _ hTb
  have e2 := cell_of_row V w.heap.size 2 _ _ _ hTb
  have e3 := cell_of_row V w.heap.size 3 _ _ _ hTb
  have e4 := cell_of_row V w.heap.size 4 _ _ _ hTb
  simp at e0 e1 e2 e3 e4
  clear hV hTb t0 t1 t2 t3 t4 lb lg
  have hBV := hB.later hA1
  obtain ⟨i0, ii, iz0, iz1, iz2⟩ := info_parts Tryz.infoInt
  have lB0 := hBV.base
  have hA9 := Below.join (Below.refl V.heap.size V).drew (Nat.le_refl _) (b1 V.drew (.cells #[.int .i64 t] 3))
  have hLA := hBV.later hA9
  have hownA := hLA.lp.own i hi
  have hnl2 : (P i).n ≤ 10 := by omega
  obtain ⟨v', W1, hap, hown1, hgr1, _, hloc1⟩ := run_append_own_at (P := Tryz.prog) (V.drew.alloc (.cells #[.int .i64 t] 3)) B0 22 22 3 i0 _ 1 8 Tryz.underlying22 ii iz0 iz1 iz2 rfl (by decide) (v i) (P i).n (rowCells (P i)) hownA ⟨V.heap.size, 0, none⟩ 1 1 [.int .i64 t] rfl (fun jj u hj => by have h := cells1_lie (W := V.drew) (x := .int .i64 t) (t := 3) jj u hj; exact h) one1 (by unfold maxLen; omega) (by omega) (by simp; omega)
  obtain ⟨gn, cn, rfl⟩ := Joins.ownsRow_form hown1 (by omega)
  obtain ⟨hput, hputB⟩ := hBV.put hA9 hi hown1 hgr1 hloc1
  have lgA := hLA.gr
  have lbA := ltCell hLA.lp.l2.c4
  dsimp only at lbA
  have hgk := hgr1.block _ lgA (fun e => (hLA.lp.off i hi).2 e.symm)
  have hbk := hgr1.block _ lbA (fun e => (hLA.lp.off i hi).1 e.symm)
  have hvA := (hLA.lp.row i hi).2
  have y3 := hBV.lp.l2.c3
  have yv := (hBV.lp.row i hi).2.1
  have m0 := (World.cell?_of_block (w' := W1) (a := ⟨gR, i, none⟩) hgk).trans hvA.1
  have mz := (World.frozen?_of_block (w' := W1) (a := ⟨gR, i, none⟩) hgk).trans hvA.2
  have m4 := (World.cell?_of_block (w' := W1) (a := ⟨b, 4, none⟩) hbk).trans hLA.lp.l2.c4
  have m3 := (World.cell?_of_block (w' := W1) (a := ⟨b, 3, none⟩) hbk).trans hLA.lp.l2.c3
  have mz4 := (World.frozen?_of_block (w' := W1) (a := ⟨b, 4, none⟩) hbk).trans hLA.lp.z4
  have hneb := hLA.lp.ne
  rw [hvf] at yv hap m0
  have hap' : Hid _ := hap
  have lg9 := hBV.gr
  have lb9 := ltCell y3
  dsimp only at lb9
  have hvX : (v i).ownBlock ≠ some w.heap.size := fun e => by have := ((hB.lp.own i hi).lt _ e).2; omega
  have hXb : w.heap.size ≠ b := by have := ltCell hB.lp.l2.c3; dsimp only at this; omega
  have hXg : w.heap.size ≠ gR := by have := hB.gr; omega
  have hAc : ∀ o u, V.cell? ⟨w.heap.size, o, none⟩ = some u → ((W1.setCell ⟨gR, i, none⟩ (.slice (some ⟨gn, 0, none⟩) ((P i).n + 1) cn)).setCell ⟨b, 4, none⟩ (.int .i64 t)).cell? ⟨w.heap.size, o, none⟩ = some u := fun o u hu => by
    rw [World.cell?_setCell_other _ _ _ _ (by intro e; cases e; exact hXb rfl), World.cell?_setCell_other _ _ _ _ (by intro e; cases e; exact hXg rfl)]
    exact cellGrown hgr1 (fun e => hvX e.symm) (cellLater hA9 hu)
  clear hap hown1 hgr1 hloc1 hgk hbk hvA hrow r0 rz x0 x1 x2 x3
  go_cut [7] (fun v wc => v = .int .i64 (P i).n ∧ wc = W1.setCell ⟨gR, i, none⟩ (.slice (some ⟨gn, 0, none⟩) ((P i).n + 1) cn))
  case first =>
    go_region_law (refine step_append_eq _ (by rfl) _ _ _ (by rfl) _ _ _ _ (by rfl) (by rfl) hap'.out ?_)
    all_goals
      go_wp2
      go_meet
      case rel => exact ⟨rfl, rfl⟩
  case rest =>
    obtain ⟨rfl, hwc⟩ := hcut
    subst hwc
    clear hap' y3 yv
    go_wp2
    refine nameW fun W4 hW4 => ?_
    rw [← hW4] at hput hputB hAc
    clear hW4 m0 mz m4 m3 mz4
    have d0 := hAc 0 _ e0
    have d1 := hAc 1 _ e1
    have d2 := hAc 2 _ e2
    have d3 := hAc 3 _ e3
    have d4 := hAc 4 _ e4
    have hb4 : Below B0 w W4 := (hA1.mono hB.base).trans hputB
    have hbase4 := hput.base
    have hlg4 : IsLegs 0 W4.heap.size W4 la (f i).nl (f i).leg := (hlg.below hb4 (Nat.le_refl _)).mono (Nat.le_refl 0) hbase4
    have hDr : Below W4.heap.size W4 W4.drew := (Below.refl _ _).drew
    have hTk := trackOf_any (f i) (P i).n la lc W4.drew hk hnl (hlg4.grow hDr)
    obtain ⟨bl, ol, rfl, _, hbl, g0, g1, g2⟩ := hlg (P i).n hk
    have q0 := cellBelow hb4 hbl g0
    have q1 := cellBelow hb4 hbl g1
    have q5 := hput.c5
    have qg := hput.lp.l2.c1
    obtain ⟨r0, r1, r2, r3⟩ := hRi.leg (P i).n hk
    have gp0 := hG.g0
    have gp1 := hG.g1
    have hk0 : (0 : Int) ≤ ((P i).n : Int) := by omega
    have hk' : ((P i).n : Int) < ((f i).nl : Int) := by omega
    have hw1 : IntKind.i64.wrap (t + ((f i).leg (P i).n).run) = t + ((f i).leg (P i).n).run := by rw [IntKind.wrap_i64]; omega
    have hw2 : IntKind.i64.wrap (t + ((f i).leg (P i).n).run + gap) = t + ((f i).leg (P i).n).run + gap := by rw [IntKind.wrap_i64]; omega
    have htkb := track_bd hR hG hi hk
    have hwf := wf_small (x := trackOf (f i) (P i).n) (by omega) (by omega)
    have hXT : (some w.heap.size : Option Nat) ≠ some bT := fun e => by have := hB.kT.lt; injection e with e; omega
    have hbT : (some b : Option Nat) ≠ some bT := fun e => hB.dist.1 (by injection e)
    have hlT : (some bl : Option Nat) ≠ some bT := fun e => by have := hB.lo.1; injection e with e; omega
    clear hA1 hA9 hLA hownA hBV e0 e1 e2 e3 e4 hAc lgA lbA hneb lg9 lb9 hvX
    go_region_held3 (fun w' => w'.cell? ⟨w.heap.size, 0, none⟩ = some (.int .i64 (f i).frm) ∧ w'.cell? ⟨w.heap.size, 1, none⟩ = some (.int .i64 (f i).ready) ∧ w'.cell? ⟨w.heap.size, 2, none⟩ = some (.int .i64 (f i).due) ∧ w'.cell? ⟨w.heap.size, 3, none⟩ = some (.int .i64 (f i).weight) ∧ w'.cell? ⟨w.heap.size, 4, none⟩ = some (.slice (some ⟨bl, ol, none⟩) (f i).nl lc) ∧ w'.cell? ⟨b, 5, none⟩ = some (.map (some bT)) ∧ w'.cell? ⟨b, 1, none⟩ = some (.int .i64 gap) ∧ w'.cell? ⟨bl, ol + (P i).n * 3 + 1, none⟩ = some (.int .i64 ((f i).leg (P i).n).run)) (first | go_keep | (go_split_ands; refine ⟨?_, ?_, ?_, ?_, ?_, ?_, ?_, ?_⟩ <;> exact cellLater hB5 (by assumption)) | (go_split_ands; refine ⟨?_, ?_, ?_, ?_, ?_, ?_, ?_, ?_⟩ <;> exact cellGrown hgr6 (by assumption) (by assumption))) ((go_at_call 66; refine hTk.mono ?_; rintro _ w5 ⟨rfl, hB5⟩; obtain ⟨W6, hup, hK6, hgr6⟩ := ((hput.kT.later hDr).later hB5).update Tryz.underlying3 Tryz.underlying70 (by unfold maxLen; omega) hwf (.agg #[.int .i64 i, .int .i64 t, .int .i64 (t + ((f i).leg (P i).n).run + gap)])))
    obtain ⟨hB6, hbl6⟩ := ((hput.later hDr).later hB5).track (x := trackOf (f i) (P i).n) (t := ⟨i, t, t + ((f i).leg (P i).n).run + gap⟩) hgr6 hK6
    have hBW6 : Below B0 w W6 := (hb4.trans ((hDr.mono hbase4).trans (hB5.mono hbase4))).trans hbl6
    have hNX : NoR R w.heap.size := fun y e => by have := ((hB.own y).lt _ e).2; omega
    have hXS : w.heap.size ≠ bS := by have := hB.kS.lt; omega
    have z0 := cellGrown hgr6 hXT (cellLater hB5 (W := W4.drew) d0)
    have z1 := cellGrown hgr6 hXT (cellLater hB5 (W := W4.drew) d1)
    have z2 := cellGrown hgr6 hXT (cellLater hB5 (W := W4.drew) d2)
    have z3 := cellGrown hgr6 hXT (cellLater hB5 (W := W4.drew) d3)
    have z4 := cellGrown hgr6 hXT (cellLater hB5 (W := W4.drew) d4)
    obtain ⟨to0, to1⟩ := hR.to i hi (P i).n hk
    obtain ⟨q, hq⟩ : ∃ q : Nat, ((f i).leg (P i).n).to = (q : Int) := ⟨((f i).leg (P i).n).to.toNat, by omega⟩
    have hst := hR.st
    rw [hq] at g0 to1
    have hq' : Hid _ := hq
    clear hq to0
    have hq1 : q ≤ 100 := by omega
    have hX6 : w.heap.size < W6.heap.size := ltCell z0
    have hn10 : ∀ j, j < np → (moreP P i t j).n ≤ 10 := fun j hj => by
      by_cases e : j = i
      · subst e; rw [moreP_n]; omega
      · rw [moreP_other e]; exact hPn j hj
    have hmb : moreB np f (moreP P i t) (i : Int) = decide ((P i).n + 1 < (f i).nl) := by
      unfold moreB
      have e1 : inB (i : Int) 0 ((np : Int) - 1) = true := decide_eq_true ⟨by omega, by omega⟩
      rw [e1, Int.toNat_natCast, moreP_n]
      rfl
    have hrl0 := Rl.refl R
    clear hput hputB hup hK6 hgr6 hB5 hDr d0 d1 d2 d3 d4 q5 qg hTk hlg4 hwf htkb hXT hbT hlT hw1 hw2 q0 q1 hb4 hbase4 hbl6
    by_cases hn0 : 0 < (P i).n
    · have hn0' : (0 : Int) < ((P i).n : Int) := by omega
      have hcur : cur (f i) (P i).n = ((f i).leg ((P i).n - 1)).to := by
        obtain ⟨e, he⟩ : ∃ e, (P i).n = e + 1 := ⟨(P i).n - 1, by omega⟩
        rw [he]; rfl
      obtain ⟨pt0, pt1⟩ := hR.to i hi ((P i).n - 1) (by omega)
      obtain ⟨p, hp⟩ : ∃ p : Nat, ((f i).leg ((P i).n - 1)).to = (p : Int) := ⟨((f i).leg ((P i).n - 1)).to.toNat, by omega⟩
      have hlg6 : IsLegs 0 W6.heap.size W6 (some ⟨bl, ol, none⟩) (f i).nl (f i).leg := (hlg.below hBW6 (Nat.le_refl _)).mono (Nat.le_refl 0) hB6.base
      have hAh := ahead_any (f i) (P i).n (some ⟨bl, ol, none⟩) lc W6 (Nat.le_of_lt hk) hnl hlg6
      rw [hcur, hp] at hAh
      have hE1p := hE1 hn0
      rw [hp] at hE1p
      have hE0p := hE0 (p : Int)
      go_wp2_with (first | (go_at_call 97; refine hAh.mono ?_; rintro _ w7 ⟨rfl, hB7⟩; have hBd7 := hB6.later hB7; have hBW7 := hBW6.trans (hB7.mono hB6.base); replace z0 := cellLater hB7 z0; replace z1 := cellLater hB7 z1; replace z2 := cellLater hB7 z2; replace z3 := cellLater hB7 z3; replace z4 := cellLater hB7 z4; replace hX6 := Nat.lt_of_lt_of_le hX6 hB7.size) | (go_at_call 100; refine (leaveBd hBd7 p t (by omega) (by omega) (by omega) (by have := hne (p : Int); omega)).mono ?_; rintro _ w8 ⟨rfl, r1, hBd8, hr1E, hr1n, hr1P, hbl8, hst8⟩; have hBW8 := hBW7.trans hbl8; replace z0 := hst8.cell z0 hXS hNX; replace z1 := hst8.cell z1 hXS hNX; replace z2 := hst8.cell z2 hXS hNX; replace z3 := hst8.cell z3 hXS hNX; replace z4 := hst8.cell z4 hXS hNX; have hNX8 := hst8.noR _ hX6 hNX; replace hX6 := Nat.lt_of_lt_of_le hX6 hst8.size; have hrl8 := hrl0.leave hr1E hr1P hr1n; have k0 := cellBelow hBW8 hbl g0; clear hst8 hbl8 hBW7 hBd7 hB7 hAh) | fail)
      have hE8 : ∀ x, 0 ≤ leaveE (fun y => (R y).E) (p : Int) x ∧ leaveE (fun y => (R y).E) (p : Int) x ≤ 90 := fun x => by
        unfold leaveE
        have h1 := hE0 x
        by_cases e : x = (p : Int)
        · subst e; rw [if_pos rfl]; dsimp only; omega
        · rw [if_neg e]; exact h1
      by_cases hlast : (P i).n + 1 < (f i).nl
      · have hmv : moreB np f (moreP P i t) (i : Int) = true := by rw [hmb]; exact decide_eq_true hlast
        have hcv : Hid (stepE f P i (fun y => (R y).E) = enterE (leaveE (fun y => (R y).E) (p : Int)) (q : Int) ∧ stepL f P i t (fun y => listE (R y)) = leaveL (fun y => listE (R y)) (p : Int) t) := by
          unfold Hid stepE stepL
          rw [if_pos hlast, if_pos hlast, if_pos hn0, if_pos hn0, hp, hq'.out]
          exact ⟨rfl, rfl⟩
        clear hmb
        go_wp2_with (first | (go_at_call 101; refine (enterBd hBd8 q hq1 (by omega) (by rw [hrl8.e]; have := hE8 (q : Int); omega)).mono ?_; rintro _ w9 ⟨rfl, r2, hBd9, hr2E, hr2n, hr2P, hbl9, hst9⟩; have hBW9 := hBW8.trans hbl9; replace z0 := hst9.cell z0 hXS hNX8; replace z1 := hst9.cell z1 hXS hNX8; replace z2 := hst9.cell z2 hXS hNX8; replace z3 := hst9.cell z3 hXS hNX8; replace z4 := hst9.cell z4 hXS hNX8; have hNX9 := hst9.noR _ hX6 hNX8; replace hX6 := Nat.lt_of_lt_of_le hX6 hst9.size; have hrl9 := hrl8.enter hr2E hr2P hr2n; replace k0 := cellBelow hBW9 hbl g0; clear hst9 hbl9) | (go_at_call 63; refine (hasNext_any b a len cap gap (some ⟨bt, ot, none⟩) np cap' f (some ⟨gR, 0, none⟩) nc (moreP P i t) t (i : Int) w9 hR hBd9.lp.l2 ((hT.below hBW9 (Nat.le_refl _)).mono (Nat.le_refl 0) hBd9.base) (hBd9.lp.rows hn10)).mono ?_; rw [hmv]; rintro _ w10 ⟨rfl, q10, hw10⟩; have hB10 : Below w9.heap.size w9 w10 := (by rw [hw10]; exact below_drewN (Below.refl _ _) _); clear hw10))
        go_end0
        refine ⟨rfl, _, _, _, by omega, hBd9.later hB10, ?_, hBW9.trans (hB10.mono hBd9.base)⟩
        rw [hcv.out.1, hcv.out.2]
        exact hrl9.mono (by omega)
      · have hmv : moreB np f (moreP P i t) (i : Int) = false := by rw [hmb]; exact decide_eq_false hlast
        have hcv : Hid (stepE f P i (fun y => (R y).E) = leaveE (enterE (leaveE (fun y => (R y).E) (p : Int)) (q : Int)) (q : Int) ∧ stepL f P i t (fun y => listE (R y)) = leaveL (leaveL (fun y => listE (R y)) (p : Int) t) (q : Int) (t + ((f i).leg (P i).n).run)) := by
          unfold Hid stepE stepL
          rw [if_neg hlast, if_neg hlast, if_pos hn0, if_pos hn0, hp, hq'.out]
          exact ⟨rfl, rfl⟩
        clear hmb
        go_wp2_with (first | (go_at_call 101; refine (enterBd hBd8 q hq1 (by omega) (by rw [hrl8.e]; have := hE8 (q : Int); omega)).mono ?_; rintro _ w9 ⟨rfl, r2, hBd9, hr2E, hr2n, hr2P, hbl9, hst9⟩; have hBW9 := hBW8.trans hbl9; replace z0 := hst9.cell z0 hXS hNX8; replace z1 := hst9.cell z1 hXS hNX8; replace z2 := hst9.cell z2 hXS hNX8; replace z3 := hst9.cell z3 hXS hNX8; replace z4 := hst9.cell z4 hXS hNX8; have hNX9 := hst9.noR _ hX6 hNX8; replace hX6 := Nat.lt_of_lt_of_le hX6 hst9.size; have hrl9 := hrl8.enter hr2E hr2P hr2n; replace k0 := cellBelow hBW9 hbl g0; clear hst9 hbl9) | (go_at_call 63; refine (hasNext_any b a len cap gap (some ⟨bt, ot, none⟩) np cap' f (some ⟨gR, 0, none⟩) nc (moreP P i t) t (i : Int) w9 hR hBd9.lp.l2 ((hT.below hBW9 (Nat.le_refl _)).mono (Nat.le_refl 0) hBd9.base) (hBd9.lp.rows hn10)).mono ?_; rw [hmv]; rintro _ w10 ⟨rfl, q10, hw10⟩; have hB10 : Below w9.heap.size w9 w10 := (by rw [hw10]; exact below_drewN (Below.refl _ _) _); clear hw10))
        have hBd10 := hBd9.later hB10
        have hBW10 := hBW9.trans (hB10.mono hBd9.base)
        replace z0 := cellLater hB10 z0
        replace z1 := cellLater hB10 z1
        replace z2 := cellLater hB10 z2
        replace z3 := cellLater hB10 z3
        replace z4 := cellLater hB10 z4
        replace k0 := cellLater hB10 k0
        clear hBd9 hBd8 hr2E hr2n hr2P
        generalize (fun y => if y = (q : Int) then r2 else (if y = (p : Int) then r1 else R y)) = R2 at hBd10 hrl9 hNX9
        have rr := (hBd10.lp.row i hi).2.1
        simp only [if_pos] at rr
        obtain ⟨bp, op, sp, spc, ec, _, _, p0, hin, _⟩ := (hBd10.lp.rows hn10) i hi
        simp only [Option.some.injEq, Addr.mk.injEq] at ec
        obtain ⟨rfl, rfl, _⟩ := ec
        rw [Nat.zero_add] at p0
        have esp := rr.symm.trans p0
        simp only [Option.some.injEq, Value.slice.injEq] at esp
        obtain ⟨rfl, hxx, rfl⟩ := esp
        clear hxx rr p0
        have rr := (hBd10.lp.row i hi).2.1
        simp only [if_pos] at rr
        rw [moreP_n] at hin
        have hlg10 : IsLegs 0 w10.heap.size w10 (some ⟨bl, ol, none⟩) (f i).nl (f i).leg := (hlg.below hBW10 (Nat.le_refl _)).mono (Nat.le_refl 0) hBd10.base
        have hDr : Below w10.heap.size w10 w10.drew := (Below.refl _ _).drew
        have hEn := end_any (f i) (P i).n (some ⟨bl, ol, none⟩) lc (moreP P i t i).s (some ⟨gn, 0, none⟩) cn w10.drew hk hRi (by rw [moreP_new]; omega) (by rw [moreP_new]; omega) (hlg10.grow hDr) (hin.grow hDr)
        rw [moreP_new] at hEn
        have c3 := hBd10.lp.l2.c3
        have hbS : b ≠ bS := hBd10.dist.2.1
        have hgS : gR ≠ bS := hBd10.dist.2.2.2.1
        have hlS : bl ≠ bS := by have := hBd10.lo.2; omega
        have hNb : NoR R2 b := fun y e => (hBd10.offR y b e).1 rfl
        have hNg : NoR R2 gR := fun y e => (hBd10.offR y gR e).2.1 rfl
        have hNl : NoR R2 bl := fun y e => by have := ((hBd10.own y).lt bl e).1; omega
        have hE9 := hrl9.e (q : Int)
        have hE9b : 0 ≤ enterE (leaveE (fun y => (R y).E) (p : Int)) (q : Int) (q : Int) ∧ enterE (leaveE (fun y => (R y).E) (p : Int)) (q : Int) (q : Int) ≤ 91 := by
          unfold enterE
          rw [if_pos rfl]
          have := hE8 (q : Int)
          (try dsimp only at this ⊢)
          omega
        have hn9q := hrl9.n (q : Int)
        have hneq := hne (q : Int)
        have hk0 : (0 : Int) ≤ ((P i).n : Int) := by omega
        have hqE : Hid (0 ≤ (R2 (q : Int)).E ∧ (R2 (q : Int)).E ≤ 100) := by unfold Hid; rw [hE9]; omega
        have hqN : Hid ((R2 (q : Int)).ne ≤ 100) := Nat.le_trans hn9q (by omega)
        clear hin hlg10 hE0 hE1 hne hE8 hE9 hn9q hE9b hneq
        go_region_held3 (fun w' => w'.cell? ⟨w.heap.size, 0, none⟩ = some (.int .i64 (f i).frm) ∧ w'.cell? ⟨w.heap.size, 1, none⟩ = some (.int .i64 (f i).ready) ∧ w'.cell? ⟨w.heap.size, 2, none⟩ = some (.int .i64 (f i).due) ∧ w'.cell? ⟨w.heap.size, 3, none⟩ = some (.int .i64 (f i).weight) ∧ w'.cell? ⟨w.heap.size, 4, none⟩ = some (.slice (some ⟨bl, ol, none⟩) (f i).nl lc) ∧ w'.cell? ⟨b, 3, none⟩ = some (.slice (some ⟨gR, 0, none⟩) np nc) ∧ w'.cell? ⟨gR, i, none⟩ = some (.slice (some ⟨gn, 0, none⟩) ((P i).n + 1) cn) ∧ w'.cell? ⟨bl, ol + (P i).n * 3, none⟩ = some (.int .i64 (q : Int))) (first | (go_split_ands; refine ⟨?_, ?_, ?_, ?_, ?_, ?_, ?_, ?_⟩ <;> exact cellLater hB11 (by assumption)) | (go_split_ands; refine ⟨?_, ?_, ?_, ?_, ?_, ?_, ?_, ?_⟩ <;> exact hst12.cell (by assumption) (by assumption) (by assumption)) | (go_split_ands; refine ⟨?_, ?_, ?_, ?_, ?_, ?_, ?_, ?_⟩ <;> exact cellLater hDr (by assumption)) | go_keep) ((first | (go_at_call 93; refine hEn.mono ?_; rintro _ w11 ⟨rfl, hB11⟩) | (go_at_call 100; refine (leaveBd ((hBd10.later hDr).later hB11) q (t + ((f i).leg (P i).n).run) hq1 (by omega) hqE.out hqN.out).mono ?_; rintro _ w12 ⟨rfl, r3, hBd12, hr3E, hr3n, hr3P, hbl12, hst12⟩)))
        go_wp2
        go_end0
        refine ⟨rfl, _, _, _, by omega, hBd12, ?_, (hBW10.trans ((hDr.mono hBd10.base).trans (hB11.mono hBd10.base))).trans hbl12⟩
        rw [hcv.out.1, hcv.out.2]
        exact (hrl9.leave hr3E hr3P hr3n).mono (by omega)
    · have hn0' : ¬ ((0 : Int) < ((P i).n : Int)) := by omega
      have hrl8 := hrl0
      have hNX8 := hNX
      have hBd8 := hB6
      have hBW8 := hBW6
      have k0 := cellBelow hBW8 hbl g0
      have hE8 : ∀ x, 0 ≤ (fun y => (R y).E) x ∧ (fun y => (R y).E) x ≤ 90 := fun x => hE0 x
      by_cases hlast : (P i).n + 1 < (f i).nl
      · have hmv : moreB np f (moreP P i t) (i : Int) = true := by rw [hmb]; exact decide_eq_true hlast
        have hcv : Hid (stepE f P i (fun y => (R y).E) = enterE (fun y => (R y).E) (q : Int) ∧ stepL f P i t (fun y => listE (R y)) = fun y => listE (R y)) := by
          unfold Hid stepE stepL
          rw [if_pos hlast, if_pos hlast, if_neg hn0, if_neg hn0, hq'.out]
          exact ⟨rfl, rfl⟩
        clear hmb
        go_wp2_with (first | (go_at_call 101; refine (enterBd hBd8 q hq1 (by omega) (by rw [hrl8.e]; have := hE8 (q : Int); omega)).mono ?_; rintro _ w9 ⟨rfl, r2, hBd9, hr2E, hr2n, hr2P, hbl9, hst9⟩; have hBW9 := hBW8.trans hbl9; replace z0 := hst9.cell z0 hXS hNX8; replace z1 := hst9.cell z1 hXS hNX8; replace z2 := hst9.cell z2 hXS hNX8; replace z3 := hst9.cell z3 hXS hNX8; replace z4 := hst9.cell z4 hXS hNX8; have hNX9 := hst9.noR _ hX6 hNX8; replace hX6 := Nat.lt_of_lt_of_le hX6 hst9.size; have hrl9 := hrl8.enter hr2E hr2P hr2n; replace k0 := cellBelow hBW9 hbl g0; clear hst9 hbl9) | (go_at_call 63; refine (hasNext_any b a len cap gap (some ⟨bt, ot, none⟩) np cap' f (some ⟨gR, 0, none⟩) nc (moreP P i t) t (i : Int) w9 hR hBd9.lp.l2 ((hT.below hBW9 (Nat.le_refl _)).mono (Nat.le_refl 0) hBd9.base) (hBd9.lp.rows hn10)).mono ?_; rw [hmv]; rintro _ w10 ⟨rfl, q10, hw10⟩; have hB10 : Below w9.heap.size w9 w10 := (by rw [hw10]; exact below_drewN (Below.refl _ _) _); clear hw10))
        go_end0
        refine ⟨rfl, _, _, _, by omega, hBd9.later hB10, ?_, hBW9.trans (hB10.mono hBd9.base)⟩
        rw [hcv.out.1, hcv.out.2]
        exact hrl9.mono (by omega)
      · have hmv : moreB np f (moreP P i t) (i : Int) = false := by rw [hmb]; exact decide_eq_false hlast
        have hcv : Hid (stepE f P i (fun y => (R y).E) = leaveE (enterE (fun y => (R y).E) (q : Int)) (q : Int) ∧ stepL f P i t (fun y => listE (R y)) = leaveL (fun y => listE (R y)) (q : Int) (t + ((f i).leg (P i).n).run)) := by
          unfold Hid stepE stepL
          rw [if_neg hlast, if_neg hlast, if_neg hn0, if_neg hn0, hq'.out]
          exact ⟨rfl, rfl⟩
        clear hmb
        go_wp2_with (first | (go_at_call 101; refine (enterBd hBd8 q hq1 (by omega) (by rw [hrl8.e]; have := hE8 (q : Int); omega)).mono ?_; rintro _ w9 ⟨rfl, r2, hBd9, hr2E, hr2n, hr2P, hbl9, hst9⟩; have hBW9 := hBW8.trans hbl9; replace z0 := hst9.cell z0 hXS hNX8; replace z1 := hst9.cell z1 hXS hNX8; replace z2 := hst9.cell z2 hXS hNX8; replace z3 := hst9.cell z3 hXS hNX8; replace z4 := hst9.cell z4 hXS hNX8; have hNX9 := hst9.noR _ hX6 hNX8; replace hX6 := Nat.lt_of_lt_of_le hX6 hst9.size; have hrl9 := hrl8.enter hr2E hr2P hr2n; replace k0 := cellBelow hBW9 hbl g0; clear hst9 hbl9) | (go_at_call 63; refine (hasNext_any b a len cap gap (some ⟨bt, ot, none⟩) np cap' f (some ⟨gR, 0, none⟩) nc (moreP P i t) t (i : Int) w9 hR hBd9.lp.l2 ((hT.below hBW9 (Nat.le_refl _)).mono (Nat.le_refl 0) hBd9.base) (hBd9.lp.rows hn10)).mono ?_; rw [hmv]; rintro _ w10 ⟨rfl, q10, hw10⟩; have hB10 : Below w9.heap.size w9 w10 := (by rw [hw10]; exact below_drewN (Below.refl _ _) _); clear hw10))
        have hBd10 := hBd9.later hB10
        have hBW10 := hBW9.trans (hB10.mono hBd9.base)
        replace z0 := cellLater hB10 z0
        replace z1 := cellLater hB10 z1
        replace z2 := cellLater hB10 z2
        replace z3 := cellLater hB10 z3
        replace z4 := cellLater hB10 z4
        replace k0 := cellLater hB10 k0
        clear hBd9 hBd8 hr2E hr2n hr2P
        generalize (fun y => if y = (q : Int) then r2 else R y) = R2 at hBd10 hrl9 hNX9
        have rr := (hBd10.lp.row i hi).2.1
        simp only [if_pos] at rr
        obtain ⟨bp, op, sp, spc, ec, _, _, p0, hin, _⟩ := (hBd10.lp.rows hn10) i hi
        simp only [Option.some.injEq, Addr.mk.injEq] at ec
        obtain ⟨rfl, rfl, _⟩ := ec
        rw [Nat.zero_add] at p0
        have esp := rr.symm.trans p0
        simp only [Option.some.injEq, Value.slice.injEq] at esp
        obtain ⟨rfl, hxx, rfl⟩ := esp
        clear hxx rr p0
        have rr := (hBd10.lp.row i hi).2.1
        simp only [if_pos] at rr
        rw [moreP_n] at hin
        have hlg10 : IsLegs 0 w10.heap.size w10 (some ⟨bl, ol, none⟩) (f i).nl (f i).leg := (hlg.below hBW10 (Nat.le_refl _)).mono (Nat.le_refl 0) hBd10.base
        have hDr : Below w10.heap.size w10 w10.drew := (Below.refl _ _).drew
        have hEn := end_any (f i) (P i).n (some ⟨bl, ol, none⟩) lc (moreP P i t i).s (some ⟨gn, 0, none⟩) cn w10.drew hk hRi (by rw [moreP_new]; omega) (by rw [moreP_new]; omega) (hlg10.grow hDr) (hin.grow hDr)
        rw [moreP_new] at hEn
        have c3 := hBd10.lp.l2.c3
        have hbS : b ≠ bS := hBd10.dist.2.1
        have hgS : gR ≠ bS := hBd10.dist.2.2.2.1
        have hlS : bl ≠ bS := by have := hBd10.lo.2; omega
        have hNb : NoR R2 b := fun y e => (hBd10.offR y b e).1 rfl
        have hNg : NoR R2 gR := fun y e => (hBd10.offR y gR e).2.1 rfl
        have hNl : NoR R2 bl := fun y e => by have := ((hBd10.own y).lt bl e).1; omega
        have hE9 := hrl9.e (q : Int)
        have hE9b : 0 ≤ enterE (fun y => (R y).E) (q : Int) (q : Int) ∧ enterE (fun y => (R y).E) (q : Int) (q : Int) ≤ 91 := by
          unfold enterE
          rw [if_pos rfl]
          have := hE8 (q : Int)
          (try dsimp only at this ⊢)
          omega
        have hn9q := hrl9.n (q : Int)
        have hneq := hne (q : Int)
        have hk0 : (0 : Int) ≤ ((P i).n : Int) := by omega
        have hqE : Hid (0 ≤ (R2 (q : Int)).E ∧ (R2 (q : Int)).E ≤ 100) := by unfold Hid; rw [hE9]; omega
        have hqN : Hid ((R2 (q : Int)).ne ≤ 100) := Nat.le_trans hn9q (by omega)
        clear hin hlg10 hE0 hE1 hne hE8 hE9 hn9q hE9b hneq
        go_region_held3 (fun w' => w'.cell? ⟨w.heap.size, 0, none⟩ = some (.int .i64 (f i).frm) ∧ w'.cell? ⟨w.heap.size, 1, none⟩ = some (.int .i64 (f i).ready) ∧ w'.cell? ⟨w.heap.size, 2, none⟩ = some (.int .i64 (f i).due) ∧ w'.cell? ⟨w.heap.size, 3, none⟩ = some (.int .i64 (f i).weight) ∧ w'.cell? ⟨w.heap.size, 4, none⟩ = some (.slice (some ⟨bl, ol, none⟩) (f i).nl lc) ∧ w'.cell? ⟨b, 3, none⟩ = some (.slice (some ⟨gR, 0, none⟩) np nc) ∧ w'.cell? ⟨gR, i, none⟩ = some (.slice (some ⟨gn, 0, none⟩) ((P i).n + 1) cn) ∧ w'.cell? ⟨bl, ol + (P i).n * 3, none⟩ = some (.int .i64 (q : Int))) (first | (go_split_ands; refine ⟨?_, ?_, ?_, ?_, ?_, ?_, ?_, ?_⟩ <;> exact cellLater hB11 (by assumption)) | (go_split_ands; refine ⟨?_, ?_, ?_, ?_, ?_, ?_, ?_, ?_⟩ <;> exact hst12.cell (by assumption) (by assumption) (by assumption)) | (go_split_ands; refine ⟨?_, ?_, ?_, ?_, ?_, ?_, ?_, ?_⟩ <;> exact cellLater hDr (by assumption)) | go_keep) ((first | (go_at_call 93; refine hEn.mono ?_; rintro _ w11 ⟨rfl, hB11⟩) | (go_at_call 100; refine (leaveBd ((hBd10.later hDr).later hB11) q (t + ((f i).leg (P i).n).run) hq1 (by omega) hqE.out hqN.out).mono ?_; rintro _ w12 ⟨rfl, r3, hBd12, hr3E, hr3n, hr3P, hbl12, hst12⟩)))
        go_wp2
        go_end0
        refine ⟨rfl, _, _, _, by omega, hBd12, ?_, (hBW10.trans ((hDr.mono hBd10.base).trans (hB11.mono hBd10.base))).trans hbl12⟩
        rw [hcv.out.1, hcv.out.2]
        exact (hrl9.leave hr3E hr3P hr3n).mono (by omega)
end Go.Proofs.YthnlkpifafklkaaGreatDoor
