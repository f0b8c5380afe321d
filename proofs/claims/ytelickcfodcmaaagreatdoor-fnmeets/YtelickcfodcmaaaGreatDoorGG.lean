/-
  What a board means, as plain data: from step to step.
  The program's board: a train's next leg is placed.
  The program's board, new: what it is.
  What lateness costs, by a plan: the walks.
  The program's looks at what is taken, by the lists of holds.
  The program's way through all legs: the first clash that a look finds.
  cmp.Or over three clashes: the first that is not the zero value.
-/
import Derived.Test.YtelickcfodcmaaaGreatDoorGF
import Derived.Test.YtelickcfodcmaaaGreatDoorGC
import Derived.Test.YtelickcfodcmaaaGreatDoorLateQ
import Derived.Test.YtelickcfodcmaaaGreatDoorGE
namespace Go.Proofs.YtelickcfodcmaaaGreatDoor
open Go.RowKit

structure BI (np : Nat) (f : Nat → TrainD) (P : Nat → RowD) (gap last : Int) (T : Int → TrackD) (R : Int → RoomD) (k : Nat) : Prop where
  ti : TI np f P gap T
  si : SI np f P last (fun x => (R x).E) (fun x => listE (R x))
  ne : ∀ x, (R x).ne ≤ 2 * k
  el : ∀ x, ∀ e ∈ listE (R x), 0 ≤ e ∧ e ≤ 1000000

theorem thereRow_pos {f : Nat → TrainD} {P : Nat → RowD} {s t : Int} {j : Nat} : ∀ {n m : Nat}, m < n → hereB f P s t j m = true → 1 ≤ thereRow f P s t j n
  | 0, _, h, _ => absurd h (Nat.not_lt_zero _)
  | n + 1, m, h, hh => by
    simp only [thereRow]
    rcases Nat.lt_or_ge m n with h1 | h1
    · have := thereRow_pos (n := n) h1 hh; omega
    · obtain rfl : m = n := by omega
      rw [if_pos hh]; omega
theorem thereAll_row {f : Nat → TrainD} {P : Nat → RowD} {s t : Int} {j : Nat} : ∀ {n : Nat}, j < n → thereRow f P s t j (P j).n ≤ thereAll f P s t n
  | 0, h => absurd h (Nat.not_lt_zero _)
  | n + 1, h => by
    simp only [thereAll]
    rcases Nat.lt_or_ge j n with h1 | h1
    · have := thereAll_row (f := f) (P := P) (s := s) (t := t) (n := n) h1; omega
    · obtain rfl : j = n := by omega
      omega
theorem cntGe_zero {L : List Int} {t : Int} (h : ∀ e ∈ L, e < t) : cntGe L t = 0 := by
  unfold cntGe
  rw [List.countP_eq_zero]
  intro e he
  have := h e he
  simp; omega
section
variable {np : Nat} {f : Nat → TrainD} {P : Nat → RowD} {gap last : Int} {T : Int → TrackD} {R : Int → RoomD} {k : Nat}
theorem BI.at_ (h : BI np f P gap last T R k) (hl : last ≤ 600000) (x : Int) : (R x).E = (thereAll f P x 1000001 np : Int) := by
  have h1 := h.si.cnt x 1000001 (by omega)
  rw [cntGe_zero (fun e he => by have := h.el x e he; omega)] at h1
  omega
theorem BI.E {len : Nat} (h : BI np f P gap last T R k) (hR : RightL len np f) (hQ : PartP np f P last) (hl : last ≤ 600000) (x : Int) : 0 ≤ (R x).E ∧ (R x).E ≤ 50 := by
  rw [h.at_ hl x]
  have h1 := thereAll_le (f := f) (P := P) (s := x) (t := 1000001) (n := np) (fun j hj => Nat.le_trans (hQ.le j hj) (hR.train j hj).nl) np (Nat.le_refl _)
  have h2 := hR.tr
  constructor <;> omega
theorem BI.ahead (h : BI np f P gap last T R k) (hl : last ≤ 600000) {i : Nat} (hi : i < np) (h0 : 0 < (P i).n) (hk : (P i).n < (f i).nl) : 1 ≤ (R ((f i).leg ((P i).n - 1)).to).E := by
  rw [h.at_ hl]
  have hh : hereB f P ((f i).leg ((P i).n - 1)).to 1000001 i ((P i).n - 1) = true := by
    unfold hereB leaveO
    rw [if_neg (by omega), if_pos (by omega)]
    simp
  have h1 := thereRow_pos (n := (P i).n) (by omega) hh
  have h2 := thereAll_row (f := f) (P := P) (s := ((f i).leg ((P i).n - 1)).to) (t := 1000001) hi
  omega
theorem SI.perm {E E' : Int → Int} {L M : Int → List Int} (h : SI np f P last E L) (hE : ∀ x, E' x = E x) (hM : ∀ x, (M x).Perm (L x)) : SI np f P last E' M :=
  ⟨fun x t ht => by rw [hE, cntGe_perm (hM x)]; exact h.cnt x t ht⟩

/-- a leg is begun -/
theorem BI.step {len : Nat} {g : Nat → Int} (h : BI np f P gap last T R k) (hR : RightL len np f) (hG : RightG len g gap np f) {i : Nat} (hi : i < np) (hk : (P i).n < (f i).nl) {q t low : Int} {r : RoomD} (hll : last ≤ low) (hlow : low = lowOf np f P gap last i) (ht0 : 0 ≤ t) (ht6 : t ≤ 600000)
    (hrd : readyOf f P i (P i).n ≤ low) (hSF : SF low (R q).E (g q.toNat) (listE (R q)) t (listE r)) (hrE : r.E = (R q).E) (hrn : r.ne ≤ (R q).ne)
    {R' : Int → RoomD} (hRl : Rl (fun y => if y = q then r else R y) R' (stepE f P i (fun y => ((fun y => if y = q then r else R y) y).E)) (stepL f P i t (fun y => listE ((fun y => if y = q then r else R y) y))) 2) :
    BI np f (moreP P i t) gap t (fun y => if y = trackOf (f i) (P i).n then ⟨i, t, t + ((f i).leg (P i).n).run + gap⟩ else T y) R' (k + 1) := by
  have hlt := hSF.lo
  have hr0 : ∀ j, j < np → ∀ m, m < (f j).nl → 0 ≤ ((f j).leg m).run := fun j hj m hm => by have := (hR.train j hj).leg m hm; omega
  have hE1 : ∀ x, ((fun y => if y = q then r else R y) x).E = (R x).E := fun x => by
    by_cases e : x = q
    · subst e; simp only [if_pos]; exact hrE
    · simp only [if_neg e]
  have hsi1 : SI np f P t (fun y => ((fun y => if y = q then r else R y) y).E) (fun y => listE ((fun y => if y = q then r else R y) y)) := by
    have h1 : SI np f P t (fun x => (R x).E) (fun y => listE ((fun y => if y = q then r else R y) y)) := h.si.keep (by omega) (fun x u hu => by
      by_cases e : x = q
      · subst e; simp only [if_pos]; exact hSF.keep u hu
      · simp only [if_neg e])
    exact ⟨fun x u hu => by rw [hE1 x]; exact h1.cnt x u hu⟩
  have hgo := hsi1.go hi hk (E1 := if 0 < (P i).n then leaveE (fun y => ((fun y => if y = q then r else R y) y).E) ((f i).leg ((P i).n - 1)).to else (fun y => ((fun y => if y = q then r else R y) y).E)) (L1 := if 0 < (P i).n then leaveL (fun y => listE ((fun y => if y = q then r else R y) y)) ((f i).leg ((P i).n - 1)).to t else (fun y => listE ((fun y => if y = q then r else R y) y)))
    (fun e => ⟨by rw [if_neg (by omega)], by rw [if_neg (by omega)]⟩) (fun e => ⟨by rw [if_pos e], by rw [if_pos e]⟩)
  have hsi2 : SI np f (moreP P i t) t (stepE f P i (fun y => ((fun y => if y = q then r else R y) y).E)) (stepL f P i t (fun y => listE ((fun y => if y = q then r else R y) y))) := by
    unfold stepE stepL
    by_cases hl : (P i).n + 1 < (f i).nl
    · rw [if_pos hl, if_pos hl]; exact hgo.1 hl
    · rw [if_neg hl, if_neg hl]; exact hgo.2 hl
  have hrunb := (hR.train i hi).leg (P i).n hk
  have hel1 : ∀ x, ∀ e ∈ listE ((fun y => if y = q then r else R y) x), 0 ≤ e ∧ e ≤ 1000000 := fun x e he => by
    by_cases ex : x = q
    · subst ex; simp only [if_pos] at he; exact h.el x e (hSF.mem e he)
    · simp only [if_neg ex] at he; exact h.el x e he
  have hel2 : ∀ (L : Int → List Int) (y s x : Int), (∀ x, ∀ e ∈ L x, 0 ≤ e ∧ e ≤ 1000000) → 0 ≤ s → s ≤ 1000000 → ∀ e ∈ leaveL L y s x, 0 ≤ e ∧ e ≤ 1000000 := fun L y s x hL h0 h1 e he => by
    unfold leaveL at he
    split at he
    · rcases List.mem_cons.1 he with rfl | h2
      · exact ⟨h0, h1⟩
      · exact hL x e h2
    · exact hL x e he
  have hel3 : ∀ x, ∀ e ∈ stepL f P i t (fun y => listE ((fun y => if y = q then r else R y) y)) x, 0 ≤ e ∧ e ≤ 1000000 := fun x => by
    have hL1 : ∀ x, ∀ e ∈ (if 0 < (P i).n then leaveL (fun y => listE ((fun y => if y = q then r else R y) y)) ((f i).leg ((P i).n - 1)).to t else (fun y => listE ((fun y => if y = q then r else R y) y))) x, 0 ≤ e ∧ e ≤ 1000000 := fun x => by
      split
      · exact hel2 _ _ _ x hel1 ht0 (by omega)
      · exact hel1 x
    unfold stepL
    split
    · exact hL1 x
    · exact hel2 _ _ _ x hL1 (by omega) (by omega)
  refine ⟨?_, hsi2.perm hRl.e hRl.p, fun x => ?_, fun x e he => hel3 x e ((hRl.p x).mem_iff.1 he)⟩
  · refine h.ti.more hi hG.g0 hr0 hk (by rw [← hlow]; exact hlt) (fun j hj => ?_)
    have h1 : readyOf f P i (P i).n = (P i).s j + ((f i).leg j).run + ((f i).leg (j + 1)).stay := by rw [hj]; rfl
    have h2 := (hR.train i hi).leg (j + 1) (by omega)
    omega
  · have h1 := hRl.n x
    have h2 := h.ne x
    by_cases e : x = q
    · subst e; simp only [if_pos] at h1; omega
    · simp only [if_neg e] at h1; omega
end
end Go.Proofs.YtelickcfodcmaaaGreatDoor

namespace Go.Proofs.YtelickcfodcmaaaGreatDoor
open Go.RowKit

set_option maxRecDepth 20000 in
set_option maxHeartbeats 4000000 in
theorem place_no (b : Nat) (a : Option Addr) (len cap : Nat) (gap : Int) (a' : Option Addr) (np cap' : Nat) (f : Nat → TrainD) (c : Option Addr) (nc : Nat) (P : Nat → RowD) (last : Int) (i : Int) (w : World) (hR : RightL len np f)
    (hL : L2 w b a len cap gap a' np cap' c nc last) (hT : IsTrains 0 w.heap.size w a' np f) (hP : IsRows 0 w.heap.size w c np P) (hm : moreB np f P i = false) :
    Calls Tryz.prog 42 #[.pointer (some ⟨b, 0, none⟩), .int .i64 i] w fun e w' => e = .returned (.int .i64 2) ∧ Below w.heap.size w w' := by
  have hHN := hasNext_any b a len cap gap a' np cap' f c nc P last i w hR hL hT hP
  rw [hm] at hHN
  go_enter Tryz.func42, Tryz.ntmps42
  go_wp2_with (go_at_call 69; refine hHN.mono ?_; rintro _ w1 ⟨rfl, q1, hw1⟩; have hB1 : Below w.heap.size w w1 := (by rw [hw1]; exact below_drewN (Below.refl _ _) _); clear hw1)
  go_ret
  exact ⟨rfl, hB1⟩

set_option maxRecDepth 20000 in
set_option maxHeartbeats 16000000 in
theorem place_main (B0 b gR bT bS : Nat) (a : Option Addr) (len cap : Nat) (g : Nat → Int) (gap : Int) (a' : Option Addr) (np cap' nc : Nat) (f : Nat → TrainD) (v : Nat → Value) (P : Nat → RowD) (last : Int) (n : Nat) (T : Int → TrackD) (R : Int → RoomD) (k i : Nat) (w : World)
    (hR : RightL len np f) (hG : RightG len g gap np f) (hQ : PartP np f P last) (hi : i < np) (hk : (P i).n < (f i).nl) (hk10 : k < 10) (hl : last ≤ 110000 + 20001 * (k : Int)) (hn8 : n ≤ 800)
    (hB : Bd B0 w b gR bT bS a len cap gap a' np cap' nc v P last n T R) (hBI : BI np f P gap last T R k) (hI : IsInts 0 B0 w a len g) (hT : IsTrains 0 B0 w a' np f) :
    Calls Tryz.prog 42 #[.pointer (some ⟨b, 0, none⟩), .int .i64 i] w fun e w' =>
      ((∀ t, lowOf np f P gap last i ≤ t → fullAt np g f P (stOf f P i) t) ∧ e = .returned (.int .i64 3) ∧ Below B0 w w') ∨
      (∃ t v' T' R' n', IsFirst np g f P (stOf f P i) (lowOf np f P gap last i) t ∧ e = .returned (.int .i64 0) ∧ n' ≤ n + 5 ∧ Bd B0 w' b gR bT bS a len cap gap a' np cap' nc v' (moreP P i t) t n' T' R' ∧ BI np f (moreP P i t) gap t T' R' (k + 1) ∧ Below B0 w w') := by
  have htr := hR.tr
  have hRi := hR.train i hi
  have hnl := hRi.nl
  have hi' : (i : Int) < (np : Int) := by omega
  have hi0 : (0 : Int) ≤ (i : Int) := by omega
  have hn10 : ∀ j, j < np → (P j).n ≤ 10 := fun j hj => Nat.le_trans (hQ.le j hj) (hR.train j hj).nl
  have hbase := hB.base
  have hT0 : IsTrains 0 w.heap.size w a' np f := hT.mono (Nat.le_refl 0) hbase
  have hP := hB.lp.rows hn10
  have hHN := hasNext_any b a len cap gap a' np cap' f (some ⟨gR, 0, none⟩) nc P last (i : Int) w hR hB.lp.l2 hT0 hP
  have hmt : moreB np f P (i : Int) = true := by
    unfold moreB
    have e1 : inB (i : Int) 0 ((np : Int) - 1) = true := decide_eq_true ⟨by omega, by omega⟩
    rw [e1, Int.toNat_natCast]
    exact decide_eq_true hk
  rw [hmt] at hHN
  clear hmt
  obtain ⟨bt, ot, la, lc, rfl, _, hbt, t0, t1, t2, t3, t4, hlg, _⟩ := hT i hi
  obtain ⟨lp, lpc, hvf⟩ := hB.lp.form hi
  have x2 := hB.lp.l2.c2
  have x3 := hB.lp.l2.c3
  have r0 := (hB.lp.row i hi).2.1
  rw [hvf] at r0
  have hin : IsInts 0 w.heap.size w lp (P i).n (P i).s := by
    obtain ⟨bp, op, sp, spc, ec, _, _, p0, hin, _⟩ := hP i hi
    simp only [Option.some.injEq, Addr.mk.injEq] at ec
    obtain ⟨rfl, rfl, _⟩ := ec
    rw [Nat.zero_add] at p0
    have esp := r0.symm.trans p0
    simp only [Option.some.injEq, Value.slice.injEq] at esp
    obtain ⟨rfl, _, _⟩ := esp
    exact hin
  go_enter Tryz.func42, Tryz.ntmps42
  go_wp2_with (go_at_call 69; refine hHN.mono ?_; rintro _ w1 ⟨rfl, q1, hw1⟩; have hB1 : Below w.heap.size w w1 := (by rw [hw1]; exact below_drewN (Below.refl _ _) _); clear hw1 hHN; replace x2 := cellLater hB1 x2; replace x3 := cellLater hB1 x3; replace r0 := cellLater hB1 r0; replace t0 := cellLater hB1 t0; replace t1 := cellLater hB1 t1; replace t2 := cellLater hB1 t2; replace t3 := cellLater hB1 t3; replace t4 := cellLater hB1 t4; have lb := ltCell x3; have lg := ltCell r0)
  have hA1 := b1 w1 (.cells #[.int .i64 (f i).frm, .int .i64 (f i).ready, .int .i64 (f i).due, .int .i64 (f i).weight, .slice la (f i).nl lc] 72)
  have hTb := Go.heap_alloc_new w1 (.cells #[.int .i64 (f i).frm, .int .i64 (f i).ready, .int .i64 (f i).due, .int .i64 (f i).weight, .slice la (f i).nl lc] 72)
  refine nameW fun V hV => ?_
  rw [← hV] at hA1 hTb
  have e0 := cell_of_row V w1.heap.size 0 _ _ _ hTb
  have e1 := cell_of_row V w1.heap.size 1 _ _ _ hTb
  have e2 := cell_of_row V w1.heap.size 2 _ _ _ hTb
  have e3 := cell_of_row V w1.heap.size 3 _ _ _ hTb
  have e4 := cell_of_row V w1.heap.size 4 _ _ _ hTb
  simp at e0 e1 e2 e3 e4
  clear hV hTb t0 t1 t2 t3 t4 lb lg
  replace x3 := cellLater hA1 x3
  replace r0 := cellLater hA1 r0
  have hwV := Below.join hB1 (Nat.le_refl _) hA1
  have hBV := hB.later hwV
  have x4 := hBV.lp.l2.c4
  have hlgw : IsLegs 0 w.heap.size w la (f i).nl (f i).leg := hlg.mono (Nat.le_refl 0) hbase
  have hs6 : ∀ j, j < (P i).n → 0 ≤ (P i).s j ∧ (P i).s j ≤ 1000000 := fun j hj => by have := hQ.at0 i hi j hj; have := hQ.l1; omega
  have htkb := track_bd hR hG hi hk
  have hwf := wf_small (x := trackOf (f i) (P i).n) (by omega) (by omega)
  have hSo := soonest_any (f i) (P i).s (P i).n la lc lp lpc V.drew hk hRi hs6 (hlgw.grow hwV.drew) (hin.grow hwV.drew)
  rw [readyR_eq] at hSo
  have hTO : ∀ X, Below V.heap.size V X → Calls Tryz.prog 57 #[.agg #[.int .i64 (f i).frm, .int .i64 (f i).ready, .int .i64 (f i).due, .int .i64 (f i).weight, .slice la (f i).nl lc], .int .i64 (P i).n] X fun e w' => e = .returned (.int .i64 (trackOf (f i) (P i).n)) ∧ Below X.heap.size X w' := fun X hX => trackOf_any (f i) (P i).n la lc X hk hnl (hlgw.grow (Below.join hwV (Nat.le_refl _) hX))
  have hTF : ∀ X, Below V.heap.size V X → Calls Tryz.prog 70 #[.pointer (some ⟨b, 0, none⟩), .int .i64 i, .int .i64 (trackOf (f i) (P i).n)] X fun e w' => e = .returned (.int .i64 (trackFreeD T i (trackOf (f i) (P i).n))) ∧ Below X.heap.size X w' := fun X hX =>
    trackFree_any b bT n (fun x => trackV (T x)) i (trackOf (f i) (P i).n) ((T (trackOf (f i) (P i).n)).tr : Int) (T (trackOf (f i) (P i).n)).frm (T (trackOf (f i) (P i).n)).free X hwf (hBV.later hX).c5 (hBV.later hX).kT rfl
  have hlow := hBI.ti.low hQ (i := i) (k := (P i).n) (lw := maxZ (readyOf f P i (P i).n) last) (by unfold maxZ; split <;> omega)
  have hlowb := low_bd hR hG hQ hi hk
  have hrdb := ready_bd hR hQ hi hk
  have hrle : readyOf f P i (P i).n ≤ lowOf np f P gap last i := by
    have h1 := (trackAll_is (f := f) (P := P) (gap := gap) (i := i) (k := (P i).n) (a := maxZ (readyOf f P i (P i).n) last) np).1
    have h2 : readyOf f P i (P i).n ≤ maxZ (readyOf f P i (P i).n) last := by unfold maxZ; split <;> omega
    exact Int.le_trans h2 h1
  have hlow2 : lowOf np f P gap last i = maxZ (maxZ (readyOf f P i (P i).n) last) (trackFreeD T i (trackOf (f i) (P i).n)) := hlow
  generalize hrd : readyOf f P i (P i).n = rd at hSo hrdb hrle hlow2
  generalize htf : trackFreeD T i (trackOf (f i) (P i).n) = tf at hTF hlow2
  generalize hlo : lowOf np f P gap last i = low at hlow2 hlowb hrle ⊢
  have hrd' : Hid _ := hrd
  have hlo' : Hid _ := hlo
  have hlow' : Hid _ := hlow2
  clear hrd htf hlo hlow hlow2 hwf x2
  go_cut [7] (fun v wc => v = .int .i64 low ∧ Below V.heap.size V wc)
  case first =>
    have hDr : Below V.heap.size V V.drew := (Below.refl _ _).drew
    have hVV := hDr
    by_cases h1 : rd < last
    · have em : Hid (maxZ rd last = last) := by unfold Hid maxZ; rw [if_pos h1]
      by_cases h2 : last < tf
      · have ev : Hid (low = tf) := by unfold Hid; rw [hlow'.out, em.out]; unfold maxZ; rw [if_pos h2]
        go_region_held3 (fun w' => w'.cell? ⟨w1.heap.size, 0, none⟩ = some (.int .i64 (f i).frm) ∧ w'.cell? ⟨w1.heap.size, 1, none⟩ = some (.int .i64 (f i).ready) ∧ w'.cell? ⟨w1.heap.size, 2, none⟩ = some (.int .i64 (f i).due) ∧ w'.cell? ⟨w1.heap.size, 3, none⟩ = some (.int .i64 (f i).weight) ∧ w'.cell? ⟨w1.heap.size, 4, none⟩ = some (.slice la (f i).nl lc) ∧ w'.cell? ⟨b, 3, none⟩ = some (.slice (some ⟨gR, 0, none⟩) np nc) ∧ w'.cell? ⟨gR, i, none⟩ = some (.slice lp (P i).n lpc) ∧ w'.cell? ⟨b, 4, none⟩ = some (.int .i64 last)) (first | (go_split_ands; refine ⟨?_, ?_, ?_, ?_, ?_, ?_, ?_, ?_⟩ <;> exact cellLater hB5 (by assumption)) | (go_split_ands; refine ⟨?_, ?_, ?_, ?_, ?_, ?_, ?_, ?_⟩ <;> exact cellLater hDr (by assumption)) | go_keep) ((first | (go_at_call 59; refine hSo.mono ?_; rintro _ w5 ⟨rfl, hB5⟩; replace hVV := Below.join hVV (Nat.le_refl _) hB5) | (go_at_call 57; refine (hTO _ hVV).mono ?_; rintro _ w5 ⟨rfl, hB5⟩; replace hVV := Below.join hVV (Nat.le_refl _) hB5) | (go_at_call 70; refine (hTF _ hVV).mono ?_; rintro _ w5 ⟨rfl, hB5⟩; replace hVV := Below.join hVV (Nat.le_refl _) hB5)))
        all_goals
          go_wp2_with fail
          go_meet
          case rel => exact ⟨by rw [ev.out], hVV⟩
      · have ev : Hid (low = last) := by unfold Hid; rw [hlow'.out, em.out]; unfold maxZ; rw [if_neg h2]
        go_region_held3 (fun w' => w'.cell? ⟨w1.heap.size, 0, none⟩ = some (.int .i64 (f i).frm) ∧ w'.cell? ⟨w1.heap.size, 1, none⟩ = some (.int .i64 (f i).ready) ∧ w'.cell? ⟨w1.heap.size, 2, none⟩ = some (.int .i64 (f i).due) ∧ w'.cell? ⟨w1.heap.size, 3, none⟩ = some (.int .i64 (f i).weight) ∧ w'.cell? ⟨w1.heap.size, 4, none⟩ = some (.slice la (f i).nl lc) ∧ w'.cell? ⟨b, 3, none⟩ = some (.slice (some ⟨gR, 0, none⟩) np nc) ∧ w'.cell? ⟨gR, i, none⟩ = some (.slice lp (P i).n lpc) ∧ w'.cell? ⟨b, 4, none⟩ = some (.int .i64 last)) (first | (go_split_ands; refine ⟨?_, ?_, ?_, ?_, ?_, ?_, ?_, ?_⟩ <;> exact cellLater hB5 (by assumption)) | (go_split_ands; refine ⟨?_, ?_, ?_, ?_, ?_, ?_, ?_, ?_⟩ <;> exact cellLater hDr (by assumption)) | go_keep) ((first | (go_at_call 59; refine hSo.mono ?_; rintro _ w5 ⟨rfl, hB5⟩; replace hVV := Below.join hVV (Nat.le_refl _) hB5) | (go_at_call 57; refine (hTO _ hVV).mono ?_; rintro _ w5 ⟨rfl, hB5⟩; replace hVV := Below.join hVV (Nat.le_refl _) hB5) | (go_at_call 70; refine (hTF _ hVV).mono ?_; rintro _ w5 ⟨rfl, hB5⟩; replace hVV := Below.join hVV (Nat.le_refl _) hB5)))
        all_goals
          go_wp2_with fail
          go_meet
          case rel => exact ⟨by rw [ev.out], hVV⟩
    · have em : Hid (maxZ rd last = rd) := by unfold Hid maxZ; rw [if_neg h1]
      by_cases h2 : rd < tf
      · have ev : Hid (low = tf) := by unfold Hid; rw [hlow'.out, em.out]; unfold maxZ; rw [if_pos h2]
        go_region_held3 (fun w' => w'.cell? ⟨w1.heap.size, 0, none⟩ = some (.int .i64 (f i).frm) ∧ w'.cell? ⟨w1.heap.size, 1, none⟩ = some (.int .i64 (f i).ready) ∧ w'.cell? ⟨w1.heap.size, 2, none⟩ = some (.int .i64 (f i).due) ∧ w'.cell? ⟨w1.heap.size, 3, none⟩ = some (.int .i64 (f i).weight) ∧ w'.cell? ⟨w1.heap.size, 4, none⟩ = some (.slice la (f i).nl lc) ∧ w'.cell? ⟨b, 3, none⟩ = some (.slice (some ⟨gR, 0, none⟩) np nc) ∧ w'.cell? ⟨gR, i, none⟩ = some (.slice lp (P i).n lpc) ∧ w'.cell? ⟨b, 4, none⟩ = some (.int .i64 last)) (first | (go_split_ands; refine ⟨?_, ?_, ?_, ?_, ?_, ?_, ?_, ?_⟩ <;> exact cellLater hB5 (by assumption)) | (go_split_ands; refine ⟨?_, ?_, ?_, ?_, ?_, ?_, ?_, ?_⟩ <;> exact cellLater hDr (by assumption)) | go_keep) ((first | (go_at_call 59; refine hSo.mono ?_; rintro _ w5 ⟨rfl, hB5⟩; replace hVV := Below.join hVV (Nat.le_refl _) hB5) | (go_at_call 57; refine (hTO _ hVV).mono ?_; rintro _ w5 ⟨rfl, hB5⟩; replace hVV := Below.join hVV (Nat.le_refl _) hB5) | (go_at_call 70; refine (hTF _ hVV).mono ?_; rintro _ w5 ⟨rfl, hB5⟩; replace hVV := Below.join hVV (Nat.le_refl _) hB5)))
        all_goals
          go_wp2_with fail
          go_meet
          case rel => exact ⟨by rw [ev.out], hVV⟩
      · have ev : Hid (low = rd) := by unfold Hid; rw [hlow'.out, em.out]; unfold maxZ; rw [if_neg h2]
        go_region_held3 (fun w' => w'.cell? ⟨w1.heap.size, 0, none⟩ = some (.int .i64 (f i).frm) ∧ w'.cell? ⟨w1.heap.size, 1, none⟩ = some (.int .i64 (f i).ready) ∧ w'.cell? ⟨w1.heap.size, 2, none⟩ = some (.int .i64 (f i).due) ∧ w'.cell? ⟨w1.heap.size, 3, none⟩ = some (.int .i64 (f i).weight) ∧ w'.cell? ⟨w1.heap.size, 4, none⟩ = some (.slice la (f i).nl lc) ∧ w'.cell? ⟨b, 3, none⟩ = some (.slice (some ⟨gR, 0, none⟩) np nc) ∧ w'.cell? ⟨gR, i, none⟩ = some (.slice lp (P i).n lpc) ∧ w'.cell? ⟨b, 4, none⟩ = some (.int .i64 last)) (first | (go_split_ands; refine ⟨?_, ?_, ?_, ?_, ?_, ?_, ?_, ?_⟩ <;> exact cellLater hB5 (by assumption)) | (go_split_ands; refine ⟨?_, ?_, ?_, ?_, ?_, ?_, ?_, ?_⟩ <;> exact cellLater hDr (by assumption)) | go_keep) ((first | (go_at_call 59; refine hSo.mono ?_; rintro _ w5 ⟨rfl, hB5⟩; replace hVV := Below.join hVV (Nat.le_refl _) hB5) | (go_at_call 57; refine (hTO _ hVV).mono ?_; rintro _ w5 ⟨rfl, hB5⟩; replace hVV := Below.join hVV (Nat.le_refl _) hB5) | (go_at_call 70; refine (hTF _ hVV).mono ?_; rintro _ w5 ⟨rfl, hB5⟩; replace hVV := Below.join hVV (Nat.le_refl _) hB5)))
        all_goals
          go_wp2_with fail
          go_meet
          case rel => exact ⟨by rw [ev.out], hVV⟩
  case rest =>
    obtain ⟨rfl, hVw⟩ := hcut
    clear hSo hTO hTF
    have hBc := hBV.later hVw
    have d4 := cellLater hVw e4
    have hwc := Below.join hwV (Nat.le_refl _) hVw
    have hbc : Below B0 w wc := hwc.mono hbase
    obtain ⟨bl, ol, rfl, _, hbl, g0, _, _⟩ := hlg (P i).n hk
    obtain ⟨to0, to1⟩ := hR.to i hi (P i).n hk
    obtain ⟨q, hq⟩ : ∃ q : Nat, ((f i).leg (P i).n).to = (q : Int) := ⟨((f i).leg (P i).n).to.toNat, by omega⟩
    have hqs : Hid (stOf f P i = (q : Int)) := hq
    rw [hq] at g0 to1
    have hq' : Hid _ := hq
    clear hq to0
    replace g0 := cellBelow hbc hbl g0
    have hst := hR.st
    have hk0 : (0 : Int) ≤ ((P i).n : Int) := by omega
    have hk' : ((P i).n : Int) < ((f i).nl : Int) := by omega
    have hl6 := hQ.l1
    have hEb := hBI.E hR hQ hl6
    have hneb : ∀ x, (R x).ne ≤ 20 := fun x => by have := hBI.ne x; omega
    have hqE : Hid (0 ≤ (R (q : Int)).E ∧ (R (q : Int)).E ≤ 100) := by unfold Hid; have := hEb (q : Int); omega
    have hqN : Hid ((R (q : Int)).ne ≤ 100) := by unfold Hid; have := hneb (q : Int); omega
    have hIc : IsInts 0 B0 wc a len g := hI.below hbc (Nat.le_refl _)
    have hTc : IsTrains 0 B0 wc (some ⟨bt, ot, none⟩) np f := hT.below hbc (Nat.le_refl _)
    have hSt := stationFreeBd hBc g q low (by omega) (by omega) (by omega) hIc hqE.out hqN.out (fun x hx => hBI.el _ x hx)
    clear x3 r0 x4 e0 e1 e2 e3 e4 hBV hA1
    go_wp2_with (go_at_call 71; refine hSt.mono ?_; rintro _ w5 (⟨rfl, hg5, hb5⟩ | ⟨t, r, rfl, hSF, hlt, hrE, hrn, hBd5, hbl5, hst5⟩))
    · have hall : Hid (∀ t, low ≤ t → fullAt np g f P (stOf f P i) t) := by
        unfold Hid
        rw [hqs.out]
        exact hBI.si.never hlowb.1 (by rw [Int.toNat_natCast]; exact hg5)
      go_wp2
      go_ret
      exact Or.inl ⟨by rw [hlo'.out]; exact hall.out, rfl, hbc.trans hb5⟩
    · have hfirst : IsFirst np g f P (stOf f P i) low t := by
        rw [hqs.out]
        exact hBI.si.first hlowb.1 (by rw [Int.toNat_natCast]; exact hSF) (by rw [Int.toNat_natCast]; exact hlt)
      have hmore := hQ.more hR hG hi hk (by rw [hlo'.out]; exact hfirst) hk10 hl
      have ht0 := hmore.1.l0
      have ht6 := hmore.1.l1
      have hrd2 : readyOf f P i (P i).n ≤ low := by rw [hrd'.out]; exact hrle
      have hE1 : ∀ x, ((fun y => if y = (q : Int) then r else R y) x).E = (R x).E := fun x => by
        by_cases e : x = (q : Int)
        · subst e; simp only [if_pos]; exact hrE
        · simp only [if_neg e]
      have hN1 : ∀ x, ((fun y => if y = (q : Int) then r else R y) x).ne ≤ 20 := fun x => by
        by_cases e : x = (q : Int)
        · subst e; simp only [if_pos]; exact Nat.le_trans hrn (hneb _)
        · simp only [if_neg e]; exact hneb x
      have hTd : IsTrains 0 B0 w5 (some ⟨bt, ot, none⟩) np f := hTc.below hbl5 (Nat.le_refl _)
      have hbeg := begin_any B0 b gR bT bS a len cap g gap (some ⟨bt, ot, none⟩) np cap' nc f v P last (n + 1) T (fun y => if y = (q : Int) then r else R y) i t w5 hR hG hi hk ht0 ht6
        (fun x => by rw [hE1]; have := hEb x; omega) (fun h0 => by rw [hE1]; exact hBI.ahead hl6 hi h0 hk) (fun x => Nat.le_trans (hN1 x) (by omega)) (by omega) hn10 hBd5 hTd
      have hfin : ∀ R', Rl (fun y => if y = (q : Int) then r else R y) R' (stepE f P i (fun y => ((fun y => if y = (q : Int) then r else R y) y).E)) (stepL f P i t (fun y => listE ((fun y => if y = (q : Int) then r else R y) y))) 2 → BI np f (moreP P i t) gap t (fun y => if y = trackOf (f i) (P i).n then ⟨i, t, t + ((f i).leg (P i).n).run + gap⟩ else T y) R' (k + 1) := fun R' hRl =>
        hBI.step hR hG hi hk hlowb.1 hlo'.out.symm ht0 ht6 hrd2 (by rw [Int.toNat_natCast]; exact hSF) hrE hrn hRl
      have hfin' : Hid _ := hfin
      have hf' : Hid _ := hfirst
      clear hfin hE1 hN1 hst5 hSF hlt hrE hrn hfirst hmore hrd2
      go_wp2_with (go_at_call 72; refine hbeg.mono ?_; rintro _ w6 ⟨rfl, v', R', n', hn', hBd6, hRl6, hbl6⟩)
      go_ret
      exact Or.inr ⟨t, v', _, R', n', by rw [hlo'.out]; exact hf'.out, rfl, by omega, hBd6, hfin'.out R' hRl6, (hbc.trans hbl5).trans hbl6⟩
end Go.Proofs.YtelickcfodcmaaaGreatDoor

namespace Go.Proofs.YtelickcfodcmaaaGreatDoor
open Go.RowKit

theorem cells_at {W : World} {k : Nat} {cs : Array Value} {t : TypeId} (h : W.heap[k]? = some (.cells cs t)) {o : Nat} {u : Value} (hu : cs[o]? = some u) : W.cell? ⟨k, o, none⟩ = some u ∧ W.frozen? ⟨k, o, none⟩ = false := by
  constructor
  · simp [World.cell?, h, hu]
  · simp [World.frozen?, h]
theorem kv_new {W : World} {k : TypeId} {b : Nat} {z : Value} (h : W.heap[b]? = some (.map #[] 0)) : KV k W b 0 z (fun _ => z) := by
  have hb : b < W.heap.size := by
    rcases Nat.lt_or_ge b W.heap.size with h' | h'
    · exact h'
    · rw [Array.getElem?_eq_none h'] at h; cases h
  have h0 := KV.made k { W with heap := W.heap.extract 0 b } z
  have hs : ({ W with heap := W.heap.extract 0 b } : World).heap.size = b := by simp; omega
  rw [hs] at h0
  refine h0.same ?_
  have h1 := Go.heap_alloc_new ({ W with heap := W.heap.extract 0 b } : World) (.map #[] 0)
  rw [hs] at h1
  rw [h, h1]
theorem bd_new {B0 : Nat} {W : World} {B gR bT bS : Nat} {a : Option Addr} {len cap : Nat} {gap : Int} {a' : Option Addr} {np cap' : Nat} (hB : W.heap[B]? = some (.cells #[.slice a len cap, .int .i64 gap, .slice a' np cap', .slice (some ⟨gR, 0, none⟩) np np, .int .i64 0, .map (some bT), .map (some bS)] 90))
    (hg : W.heap[gR]? = some (.cells (madeCells #[.slice none 0 0] np) 23)) (hT : W.heap[bT]? = some (.map #[] 0)) (hS : W.heap[bS]? = some (.map #[] 0)) (hd : B0 < B ∧ B0 < gR ∧ B0 < bT ∧ B0 < bS ∧ B ≠ gR ∧ B ≠ bT ∧ B ≠ bS ∧ gR ≠ bT ∧ gR ≠ bS ∧ bT ≠ bS) :
    Bd B0 W B gR bT bS a len cap gap a' np cap' np (fun _ => .slice none 0 0) (fun _ => ⟨0, fun _ => 0⟩) 0 0 (fun _ => ⟨0, 0, 0⟩) (fun _ => ⟨0, none, 0, 0, fun _ => 0⟩) := by
  obtain ⟨d0, d1, d2, d3, d4, d5, d6, d7, d8, d9⟩ := hd
  have hgl : gR < W.heap.size := by
    rcases Nat.lt_or_ge gR W.heap.size with h' | h'
    · exact h'
    · rw [Array.getElem?_eq_none h'] at hg; cases hg
  have hrow : ∀ j, j < np → (madeCells #[Value.slice none 0 0] np)[j]? = some (.slice none 0 0) := fun j hj => by
    rw [← Array.getElem?_toList, toList_madeCells_one, List.getElem?_replicate, if_pos hj]
  refine ⟨⟨⟨(cells_at hB rfl).1, (cells_at hB rfl).1, (cells_at hB rfl).1, (cells_at hB rfl).1, (cells_at hB rfl).1⟩, (cells_at (o := 4) hB rfl).2, fun j hj => ⟨rfl, (cells_at hg (hrow j hj)).1, (cells_at hg (hrow j hj)).2⟩, fun j hj => World.ownsRow_nil _ _ _ _, fun j k _ _ _ => Or.inl rfl, fun j hj => ⟨fun e => (by cases e), fun e => (by cases e)⟩, d4, by omega, by omega⟩,
    (cells_at hB rfl).1, (cells_at hB rfl).1, kv_new hT, kv_new hS, fun x => World.ownsRow_nil _ _ _ _, fun x k h0 h1 => absurd h1 (Nat.not_lt_zero k), fun _ _ _ => Or.inl rfl, fun _ _ _ => Or.inl rfl, fun x k e => (by cases e), fun j _ k e => (by cases e), ⟨d5, d6, d7, d8, d9⟩, ⟨by omega, by omega⟩, hgl⟩
theorem bi_new (np : Nat) (f : Nat → TrainD) (gap : Int) : BI np f (fun _ => ⟨0, fun _ => 0⟩) gap 0 (fun _ => ⟨0, 0, 0⟩) (fun _ => ⟨0, none, 0, 0, fun _ => 0⟩) 0 := by
  refine ⟨⟨fun x => Or.inl ⟨fun j hj m hm => absurd hm (Nat.not_lt_zero m), rfl⟩, fun j hj m hm => absurd hm (Nat.not_lt_zero _)⟩, ?_, fun x => Nat.le_refl _, fun x e he => ?_⟩
  · exact (SI.start np f 0).perm (fun _ => rfl) (fun _ => List.Perm.refl _)
  · cases he
end Go.Proofs.YtelickcfodcmaaaGreatDoor

namespace Go.Proofs.YtelickcfodcmaaaGreatDoor
open Go.RowKit

set_option maxHeartbeats 1000000 in
theorem latenessP_any (t : TrainD) (e : Int) (la : Option Addr) (lc : Nat) (w : World) (hR : RightT t) (h0 : 0 ≤ e) (h1 : e ≤ 1010000) :
    Calls Tryz.prog 38 #[.agg #[.int .i64 t.frm, .int .i64 t.ready, .int .i64 t.due, .int .i64 t.weight, .slice la t.nl lc], .int .i64 e] w fun ev w' => ev = .returned (.int .i64 (lateOf t e)) ∧ Below w.heap.size w w' := by
  have hd0 := hR.d0
  have hd1 := hR.d1
  have hw0 := hR.w0
  have hw1 := hR.w1
  obtain ⟨lb0, lb1⟩ := lateOf_bdP hR h0 h1
  by_cases hc : e ≤ t.due
  · have hL : lateOf t e = 0 := by unfold lateOf; rw [if_pos hc]
    rw [hL]
    clear hL lb0 lb1
    go_enter Tryz.func38, Tryz.ntmps38
    go_wp2
    go_ret
    exact ⟨rfl, b1 _ _⟩
  · have hL : lateOf t e = t.weight * (e - t.due) := by unfold lateOf; rw [if_neg hc]
    rw [hL] at lb0 lb1 ⊢
    clear hL
    go_enter Tryz.func38, Tryz.ntmps38
    go_wp2
    go_ret
    exact ⟨rfl, b1 _ _⟩

end Go.Proofs.YtelickcfodcmaaaGreatDoor

namespace Go.Proofs.YtelickcfodcmaaaGreatDoor
open Go.RowKit

theorem find_first {p : HoldD → Bool} : ∀ {L : List HoldD} {r : Nat} {h : HoldD}, L[r]? = some h → p h = true → (∀ j x, j < r → L[j]? = some x → p x = false) → L.find? p = some h
  | [], r, h, e, _, _ => by simp at e
  | y :: L, 0, h, e, hp, _ => by
    have : y = h := by simpa using e
    subst this
    simp [hp]
  | y :: L, r + 1, h, e, hp, hall => by
    have hy := hall 0 y (by omega) (by simp)
    rw [List.find?_cons, hy]
    exact find_first (r := r) (by simpa using e) hp (fun j x hj hx => hall (j + 1) x (by omega) (by simpa using hx))
theorem find_no {p : HoldD → Bool} {L : List HoldD} (hall : ∀ j x, j < L.length → L[j]? = some x → p x = false) : L.find? p = none := by
  rw [List.find?_eq_none]
  intro x hx
  obtain ⟨j, hj, e⟩ := List.mem_iff_getElem.1 hx
  have := hall j x hj (by rw [List.getElem?_eq_getElem hj, e])
  simp [this]
theorem count_take {p : HoldD → Bool} {L : List HoldD} {r : Nat} {h : HoldD} (e : L[r]? = some h) : (L.take (r + 1)).countP p = (L.take r).countP p + if p h = true then 1 else 0 := by
  rw [List.take_add_one, e, List.countP_append]
  simp [List.countP_cons]

set_option maxRecDepth 20000 in
set_option maxHeartbeats 8000000 in
theorem trackTaken_any (a : Option Addr) (len cap : Nat) (g : Nat → Int) (gap : Int) (a' : Option Addr) (np cap' : Nat) (f : Nat → TrainD) (c : Option Addr) (nc b0 bT bS n : Nat) (mT mS : Int → Value) (LS : Int → List HoldD) (P : Nat → RowD) (i k : Nat) (w : World)
    (hR : RightL len np f) (hG : RightG len g gap np f) (hQ : RightP np f np P) (hi : i < np) (hk : k < (f i).nl) (hT : IsTrains 0 w.heap.size w a' np f) (hP : IsRows 0 w.heap.size w c np P) (hGr : Gr w b0 bT bS n mT mS (listT gap np f P) LS) :
    Calls Tryz.prog 27 #[.agg #[.slice a' np cap', .slice c np nc, .slice a len cap, .map (some bT), .map (some bS)], .int .i64 i, .int .i64 k] w fun e w' => e = .returned (clashV (takenC gap np f P i k)) ∧ Below w.heap.size w w' := by
  have hX := LookBox.new w a len cap a' np cap' c nc bT bS 62 33
  have hN := b2 w (.cells #[.slice a' np cap', .slice c np nc, .slice a len cap, .map (some bT), .map (some bS)] 62) (.cells #[.int .i64 0, .int .i64 0, .int .i64 0, .int .i64 0] 33)
  have htr := hR.tr
  have hRi := hR.train i hi
  have hnl := hRi.nl
  obtain ⟨x0, x1⟩ := trackOf_bd hR hG hi hk
  have hi' : (i : Int) < (np : Int) := by omega
  have hi0 : (0 : Int) ≤ (i : Int) := by omega
  have hk' : (k : Int) < ((f i).nl : Int) := by omega
  have hk0 : (0 : Int) ≤ (k : Int) := by omega
  obtain ⟨b, off, la, lc, rfl, _, hb, t0, t1, t2, t3, t4, hlg, _⟩ := hT i hi
  obtain ⟨bp, op, lp, lpc, rfl, _, hbp, p0, hin, _⟩ := hP i hi
  rw [hQ.row i hi] at p0 hin
  obtain ⟨bi, oi, rfl, _, hbi, q0⟩ := hin k hk
  replace t0 := cellLater hN t0
  replace t1 := cellLater hN t1
  replace t2 := cellLater hN t2
  replace t3 := cellLater hN t3
  replace t4 := cellLater hN t4
  replace p0 := cellLater hN p0
  replace q0 := cellLater hN q0
  replace hlg := hlg.grow hN.drew
  replace hGr := hGr.later hN
  have hll : (listT gap np f P (trackOf (f i) k)).length ≤ 10 := Nat.le_trans (allH_len f np) hG.legs
  have hE : takenC gap np f P i k = (match (listT gap np f P (trackOf (f i) k)).find? (hitB i ((P i).s k)) with | some h => (3, (i : Int), (k : Int), (h.tr : Int)) | none => (0, 0, 0, 0)) := rfl
  generalize takenC gap np f P i k = vv at hE ⊢
  go_enter Tryz.func27, Tryz.ntmps27
  go_wp2
  refine nameW fun W hW => ?_
  rw [← hW] at hX hN t0 t1 t2 t3 t4 p0 q0 hlg hGr
  clear hW
  obtain ⟨ha, hc, hv, hcs⟩ := isHolds_of (hGr.oT (trackOf (f i) k))
  have hlk : ∀ V : World, Below W.heap.size W V → (Instr.lookup 60 (.map (some bT)) (.int .i64 (trackOf (f i) k)) false).run Tryz.prog V = .ok (.slice ha (listT gap np f P (trackOf (f i) k)).length hc) V := fun V hV => by
    have := (hGr.kT.later hV).lookup Tryz.underlying3 Tryz.underlying60 (Tryz.zeroHolds _) (wf_small x0 x1)
    rw [hv] at this
    exact this
  generalize listT gap np f P (trackOf (f i) k) = L at hE hcs hlk hll
  clear hv
  have hS0 := And.intro (b := W.drew.cell? ⟨w.heap.size, 3, none⟩ = some (.map (some bT)) ∧ W.drew.cell? ⟨b, off + i * 5, none⟩ = some (.int .i64 (f i).frm) ∧ W.drew.cell? ⟨b, off + i * 5 + 1, none⟩ = some (.int .i64 (f i).ready) ∧ W.drew.cell? ⟨b, off + i * 5 + 2, none⟩ = some (.int .i64 (f i).due) ∧ W.drew.cell? ⟨b, off + i * 5 + 3, none⟩ = some (.int .i64 (f i).weight) ∧ W.drew.cell? ⟨b, off + i * 5 + 4, none⟩ = some (.slice la (f i).nl lc) ∧ (Instr.lookup 60 (.map (some bT)) (.int .i64 (trackOf (f i) k)) false).run Tryz.prog W.drew = .ok (.slice ha L.length hc) W.drew) (show W.drew.cell? ⟨w.heap.size, 0, none⟩ = some (.slice (some ⟨b, off, none⟩) np cap') from hX.h0) ⟨hX.h3, t0, t1, t2, t3, t4, hlk _ (Below.refl _ _).drew⟩
  go_region_held3 (fun w' => w'.cell? ⟨w.heap.size, 0, none⟩ = some (.slice (some ⟨b, off, none⟩) np cap') ∧ w'.cell? ⟨w.heap.size, 3, none⟩ = some (.map (some bT)) ∧ w'.cell? ⟨b, off + i * 5, none⟩ = some (.int .i64 (f i).frm) ∧ w'.cell? ⟨b, off + i * 5 + 1, none⟩ = some (.int .i64 (f i).ready) ∧ w'.cell? ⟨b, off + i * 5 + 2, none⟩ = some (.int .i64 (f i).due) ∧ w'.cell? ⟨b, off + i * 5 + 3, none⟩ = some (.int .i64 (f i).weight) ∧ w'.cell? ⟨b, off + i * 5 + 4, none⟩ = some (.slice la (f i).nl lc) ∧ (Instr.lookup 60 (.map (some bT)) (.int .i64 (trackOf (f i) k)) false).run Tryz.prog w' = .ok (.slice ha L.length hc) w') (first | exact hS0 | exact hS3) ((first | (go_at_call 57; refine (trackOf_any (f i) k _ _ _ hk hnl hlg).mono ?_; rintro e W3 ⟨rfl, hB3⟩; have hS3 := And.intro (cellLater hB3 hS0.1) (And.intro (cellLater hB3 hS0.2.1) (And.intro (cellLater hB3 hS0.2.2.1) (And.intro (cellLater hB3 hS0.2.2.2.1) (And.intro (cellLater hB3 hS0.2.2.2.2.1) (And.intro (cellLater hB3 hS0.2.2.2.2.2.1) (And.intro (cellLater hB3 hS0.2.2.2.2.2.2.1) (hlk _ (Below.join (Below.refl _ _).drew (Nat.le_refl _) hB3)))))))))))
  clear hlk hS0 hS3
  have hJ := Below.join (Below.refl W.heap.size W).drew (Nat.le_refl _) hB3
  replace hX := hX.later hJ
  replace hN := Below.join hN (Nat.le_refl _) hJ
  replace p0 := cellLater hJ p0
  replace q0 := cellLater hJ q0
  replace hcs : IsHolds W3 (.slice ha L.length hc) L := IsHolds.later ⟨ha, hc, rfl, hcs⟩ hJ
  clear t0 t1 t2 t3 t4 hlg hGr hB3 hJ
  go_wp2
  go_loopw [20] (fun rr wr => ∃ (r : Nat), r ≤ L.length ∧ rr = .int .i64 r ∧ (∀ j x, j < r → L[j]? = some x → hitB i ((P i).s k) x = false) ∧ Below W3.heap.size W3 wr) (fun rr _ => L.length - (intOf rr).toNat)
  case atStart => exact ⟨0, Nat.zero_le _, rfl, fun _ _ h => by omega, Below.refl _ _⟩
  case round =>
    obtain ⟨r, hr, rfl, hall, hB⟩ := hrel
    by_cases hlt : r < L.length
    · obtain ⟨h, hh⟩ : ∃ h, L[r]? = some h := ⟨L[r], List.getElem?_eq_getElem hlt⟩
      obtain ⟨_, _, e9, hcs9⟩ := hcs
      cases e9
      obtain ⟨gg, go, rfl, c0, c1, c2⟩ := hcs9 r h hh
      have hlt' : (r : Int) < (L.length : Int) := by omega
      have hr0 : (0 : Int) ≤ (r : Int) := by omega
      replace c0 := cellLater hB c0
      replace c1 := cellLater hB c1
      replace c2 := cellLater hB c2
      replace p0 := cellLater hB p0
      replace q0 := cellLater hB q0
      replace hX := hX.later hB
      have y1 := hX.h1
      have hA := b1 wr (.cells #[.int .i64 h.tr, .int .i64 h.frm, .int .i64 h.free] 78)
      obtain ⟨d0, d1, d2⟩ := new3 wr (.int .i64 h.tr) (.int .i64 h.frm) (.int .i64 h.free) 78
      replace p0 := cellLater hA p0
      replace q0 := cellLater hA q0
      replace y1 := cellLater hA y1
      replace hX := hX.later hA
      obtain ⟨ht, hf, hfr⟩ := h
      dsimp only at c0 c1 c2 d0 d1 d2 p0 q0 y1
      by_cases hne : ht = i
      · subst hne
        have hhit : hitB ht ((P ht).s k) ⟨ht, hf, hfr⟩ = false := hitB_own rfl
        have hne' : ((ht : Int) != (ht : Int)) = false := by simp
        go_wp2
        refine nameW fun V hV => ?_
        rw [← hV] at d0 d1 d2 p0 q0 y1 hA hX
        clear hV
        go_quiet (fail)
        go_wp2
        go_roundw
        case rel => exact ⟨r + 1, by omega, by go_num, fun j x hj hx => (by by_cases e : j = r; (· subst e; rw [hh] at hx; cases hx; exact hhit); (· exact hall j x (by omega) hx)), Below.join hB (Nat.le_refl _) (below_drewN hA _)⟩
        case measure => simp [intOf]; omega
      · have hhit := hitB_met (i := i) (t := (P i).s k) (h := ⟨ht, hf, hfr⟩) hne
        have hne' : ((ht : Int) != (i : Int)) = true := by simp; omega
        cases hm : metB i ((P i).s k) ⟨ht, hf, hfr⟩
        · rw [hm] at hhit
          have hmet := fun V => metBy_any ⟨ht, hf, hfr⟩ i ((P i).s k) V
          rw [hm] at hmet
          dsimp only at hmet
          clear hm
          go_wp2
          refine nameW fun V hV => ?_
          rw [← hV] at d0 d1 d2 p0 q0 y1 hA hX
          clear hV
          (go_region_held3 (fun w' => w'.cell? ⟨wr.heap.size, 0, none⟩ = some (.int .i64 ht) ∧ w'.cell? ⟨wr.heap.size, 1, none⟩ = some (.int .i64 hf) ∧ w'.cell? ⟨wr.heap.size, 2, none⟩ = some (.int .i64 hfr) ∧ w'.cell? ⟨w.heap.size, 1, none⟩ = some (.slice (some ⟨bp, op, none⟩) np nc) ∧ w'.cell? ⟨bp, op + i, none⟩ = some (.slice (some ⟨bi, oi, none⟩) (f i).nl lpc) ∧ w'.cell? ⟨bi, oi + k, none⟩ = some (.int .i64 ((P i).s k))) (first | go_keep | (go_split_ands; refine ⟨?_, ?_, ?_, ?_, ?_, ?_⟩ <;> exact cellLater hB4 (by assumption))) ((first | (go_at_call 60; refine (hmet _).mono ?_; rintro e W4 ⟨rfl, hB4⟩))))
          go_wp2
          go_roundw
          case rel => exact ⟨r + 1, by omega, by go_num, fun j x hj hx => (by by_cases e : j = r; (· subst e; rw [hh] at hx; cases hx; exact hhit); (· exact hall j x (by omega) hx)), Below.join (Below.join hB (Nat.le_refl _) hA.drew) (Nat.le_refl _) hB4⟩
          case measure => simp [intOf]; omega
        · rw [hm] at hhit
          have hmet := fun V => metBy_any ⟨ht, hf, hfr⟩ i ((P i).s k) V
          rw [hm] at hmet
          dsimp only at hmet
          clear hm
          rw [find_first hh hhit hall] at hE
          dsimp only at hE
          go_wp2
          refine nameW fun V hV => ?_
          rw [← hV] at d0 d1 d2 p0 q0 y1 hA hX
          clear hV
          (go_region_held3 (fun w' => w'.cell? ⟨wr.heap.size, 0, none⟩ = some (.int .i64 ht) ∧ w'.cell? ⟨wr.heap.size, 1, none⟩ = some (.int .i64 hf) ∧ w'.cell? ⟨wr.heap.size, 2, none⟩ = some (.int .i64 hfr) ∧ w'.cell? ⟨w.heap.size, 1, none⟩ = some (.slice (some ⟨bp, op, none⟩) np nc) ∧ w'.cell? ⟨bp, op + i, none⟩ = some (.slice (some ⟨bi, oi, none⟩) (f i).nl lpc) ∧ w'.cell? ⟨bi, oi + k, none⟩ = some (.int .i64 ((P i).s k))) (first | go_keep | (go_split_ands; refine ⟨?_, ?_, ?_, ?_, ?_, ?_⟩ <;> exact cellLater hB4 (by assumption))) ((first | (go_at_call 60; refine (hmet _).mono ?_; rintro e W4 ⟨rfl, hB4⟩))))
          have hJ4 := Below.join (Below.refl V.heap.size V).drew (Nat.le_refl _) hB4
          replace hX := hX.later hJ4
          replace d0 := cellLater hJ4 d0
          have r0 := hX.r0
          have r1 := hX.r1
          have r2 := hX.r2
          have r3 := hX.r3
          have z0 := hX.z0
          have z1 := hX.z1
          have z2 := hX.z2
          have z3 := hX.z3
          go_wp2
          refine bodyPost_ret (v := .agg #[.int .i64 3, .int .i64 i, .int .i64 k, .int .i64 ht]) (by simp [results, Tryz.results27, go_sem, r0, r1, r2, r3]) rfl ⟨by first | (rw [hE]; rfl) | (subst hE; rfl), ?_⟩
          exact below_set4 (Below.join (Below.join (Below.join hN (Nat.le_refl _) hB) (Nat.le_refl _) hA) (Nat.le_refl _) hJ4) (by omega) _ _ _ _
    · have hlt' : (L.length : Int) ≤ (r : Int) := by omega
      rw [find_no (fun j x hj hx => hall j x (by omega) hx)] at hE
      dsimp only at hE
      replace hX := hX.later hB
      have r0 := hX.r0
      have r1 := hX.r1
      have r2 := hX.r2
      have r3 := hX.r3
      have z0 := hX.z0
      have z1 := hX.z1
      have z2 := hX.z2
      have z3 := hX.z3
      clear hlt hr
      go_wp2
      refine bodyPost_ret (v := .agg #[.int .i64 0, .int .i64 0, .int .i64 0, .int .i64 0]) (by simp [results, Tryz.results27, go_sem, r0, r1, r2, r3]) rfl ⟨by first | (rw [hE]; rfl) | (subst hE; rfl), ?_⟩
      exact below_set4 (Below.join hN (Nat.le_refl _) hB) (by omega) _ _ _ _

set_option maxRecDepth 20000 in
set_option maxHeartbeats 8000000 in
theorem stationFull_any (a : Option Addr) (len cap : Nat) (g : Nat → Int) (gap : Int) (a' : Option Addr) (np cap' : Nat) (f : Nat → TrainD) (c : Option Addr) (nc b0 bT bS n : Nat) (mT mS : Int → Value) (LT : Int → List HoldD) (P : Nat → RowD) (i k : Nat) (w : World)
    (hR : RightL len np f) (hG : RightG len g gap np f) (hQ : RightP np f np P) (hi : i < np) (hk : k < (f i).nl) (hI : IsInts 0 w.heap.size w a len g) (hT : IsTrains 0 w.heap.size w a' np f) (hP : IsRows 0 w.heap.size w c np P) (hGr : Gr w b0 bT bS n mT mS LT (listS np f P)) :
    Calls Tryz.prog 28 #[.agg #[.slice a' np cap', .slice c np nc, .slice a len cap, .map (some bT), .map (some bS)], .int .i64 i, .int .i64 k] w fun e w' => e = .returned (clashV (fullC g np f P i k)) ∧ Below w.heap.size w w' := by
  have hX := LookBox.new w a len cap a' np cap' c nc bT bS 62 33
  have hN := b2 w (.cells #[.slice a' np cap', .slice c np nc, .slice a len cap, .map (some bT), .map (some bS)] 62) (.cells #[.int .i64 0, .int .i64 0, .int .i64 0, .int .i64 0] 33)
  have htr := hR.tr
  have hRi := hR.train i hi
  have hnl := hRi.nl
  obtain ⟨x0, x1⟩ := hR.to i hi k hk
  have hst := hR.st
  have hi' : (i : Int) < (np : Int) := by omega
  have hi0 : (0 : Int) ≤ (i : Int) := by omega
  have hk' : (k : Int) < ((f i).nl : Int) := by omega
  have hk0 : (0 : Int) ≤ (k : Int) := by omega
  obtain ⟨b, off, la, lc, rfl, _, hb, _, _, _, _, t4, hlg, _⟩ := hT i hi
  obtain ⟨bl, ol, rfl, _, hbl, g0, _, _⟩ := hlg k hk
  obtain ⟨bp, op, lp, lpc, rfl, _, hbp, p0, hin, _⟩ := hP i hi
  rw [hQ.row i hi] at p0 hin
  obtain ⟨bi, oi, rfl, _, hbi, q0⟩ := hin k hk
  have hE : fullC g np f P i k = if g ((f i).leg k).to.toNat < ((listS np f P ((f i).leg k).to).countP (metB i ((P i).s k)) : Int) then (4, (i : Int), (k : Int), 0) else (0, 0, 0, 0) := rfl
  generalize fullC g np f P i k = vv at hE ⊢
  obtain ⟨q, hq⟩ : ∃ q : Nat, ((f i).leg k).to = (q : Int) := ⟨((f i).leg k).to.toNat, by omega⟩
  rw [hq] at g0 hE x1
  rw [Int.toNat_natCast] at hE
  clear hq x0
  have hql : q < len := by omega
  obtain ⟨ba, oa, rfl, _, hba, w0⟩ := hI q hql
  have hll : (listS np f P (q : Int)).length ≤ 10 := Nat.le_trans (allH_len f np) hG.legs
  replace t4 := cellLater hN t4
  replace g0 := cellLater hN g0
  replace p0 := cellLater hN p0
  replace q0 := cellLater hN q0
  replace w0 := cellLater hN w0
  replace hGr := hGr.later hN
  obtain ⟨ha, hc, hv, hcs⟩ := isHolds_of (hGr.oS (q : Int))
  have hlk := hGr.kS.lookup Tryz.underlying3 Tryz.underlying60 (Tryz.zeroHolds _) (x := (q : Int)) (wf_small (by omega) (by omega))
  rw [hv] at hlk
  generalize listS np f P (q : Int) = L at hE hcs hlk hll
  clear hv hGr
  have y0 := hX.h0
  have y4 := hX.h4
  have hq0 : (0 : Int) ≤ (q : Int) := by omega
  go_enter Tryz.func28, Tryz.ntmps28
  go_wp2
  refine nameW fun W3 hW => ?_
  rw [← hW] at hX hN p0 q0 w0 hcs
  clear hW y0 y4 hlk t4 g0
  replace hcs : IsHolds W3 (.slice ha L.length hc) L := ⟨ha, hc, rfl, hcs⟩
  go_loopw [8, 26] (fun cc rr wr => ∃ (r : Nat), r ≤ L.length ∧ rr = .int .i64 r ∧ cc = .int .i64 ((L.take r).countP (metB i ((P i).s k)) : Nat) ∧ Below W3.heap.size W3 wr) (fun _ rr _ => L.length - (intOf rr).toNat)
  case atStart => exact ⟨0, Nat.zero_le _, rfl, by simp, Below.refl _ _⟩
  case round =>
    obtain ⟨r, hr, rfl, rfl, hB⟩ := hrel
    by_cases hlt : r < L.length
    · obtain ⟨h, hh⟩ : ∃ h, L[r]? = some h := ⟨L[r], List.getElem?_eq_getElem hlt⟩
      have hct := count_take (p := metB i ((P i).s k)) hh
      have hcl : (L.take r).countP (metB i ((P i).s k)) ≤ 10 := Nat.le_trans List.countP_le_length (by rw [List.length_take]; omega)
      obtain ⟨_, _, e9, hcs9⟩ := hcs
      cases e9
      obtain ⟨gg, go, rfl, c0, c1, c2⟩ := hcs9 r h hh
      have hlt' : (r : Int) < (L.length : Int) := by omega
      have hr0 : (0 : Int) ≤ (r : Int) := by omega
      replace c0 := cellLater hB c0
      replace c1 := cellLater hB c1
      replace c2 := cellLater hB c2
      have hA := b1 wr (.cells #[.int .i64 h.tr, .int .i64 h.frm, .int .i64 h.free] 78)
      obtain ⟨d0, d1, d2⟩ := new3 wr (.int .i64 h.tr) (.int .i64 h.frm) (.int .i64 h.free) 78
      replace p0 := cellLater hA (cellLater hB p0)
      replace q0 := cellLater hA (cellLater hB q0)
      have y1 := cellLater hA (cellLater hB hX.h1)
      obtain ⟨ht, hf, hfr⟩ := h
      dsimp only at c0 c1 c2 d0 d1 d2 hA p0 q0 y1
      have hmet := fun V => metBy_any ⟨ht, hf, hfr⟩ i ((P i).s k) V
      dsimp only at hmet
      generalize hcn : (L.take r).countP (metB i ((P i).s k)) = cn at hct hcl
      cases hm : metB i ((P i).s k) ⟨ht, hf, hfr⟩
      · rw [hm] at hmet hct
        simp only [Bool.false_eq_true, if_false, Nat.add_zero] at hct
        clear hm hcn
        go_wp2
        refine nameW fun V hV => ?_
        rw [← hV] at d0 d1 d2 p0 q0 y1 hA
        clear hV
        go_region_held3 (fun w' => w'.cell? ⟨wr.heap.size, 0, none⟩ = some (.int .i64 ht) ∧ w'.cell? ⟨wr.heap.size, 1, none⟩ = some (.int .i64 hf) ∧ w'.cell? ⟨wr.heap.size, 2, none⟩ = some (.int .i64 hfr) ∧ w'.cell? ⟨w.heap.size, 1, none⟩ = some (.slice (some ⟨bp, op, none⟩) np nc) ∧ w'.cell? ⟨bp, op + i, none⟩ = some (.slice (some ⟨bi, oi, none⟩) (f i).nl lpc) ∧ w'.cell? ⟨bi, oi + k, none⟩ = some (.int .i64 ((P i).s k))) (first | go_keep | (go_split_ands; refine ⟨?_, ?_, ?_, ?_, ?_, ?_⟩ <;> exact cellLater hB4 (by assumption))) ((first | (go_at_call 60; refine (hmet _).mono ?_; rintro e W4 ⟨rfl, hB4⟩)))
        go_wp2
        go_roundw
        case rel => exact ⟨r + 1, by omega, by go_num, by rw [hct], Below.join (Below.join hB (Nat.le_refl _) hA.drew) (Nat.le_refl _) hB4⟩
        case measure => simp [intOf]; omega
      · rw [hm] at hmet hct
        simp only [if_true] at hct
        clear hm hcn
        go_wp2
        refine nameW fun V hV => ?_
        rw [← hV] at d0 d1 d2 p0 q0 y1 hA
        clear hV
        go_region_held3 (fun w' => w'.cell? ⟨wr.heap.size, 0, none⟩ = some (.int .i64 ht) ∧ w'.cell? ⟨wr.heap.size, 1, none⟩ = some (.int .i64 hf) ∧ w'.cell? ⟨wr.heap.size, 2, none⟩ = some (.int .i64 hfr) ∧ w'.cell? ⟨w.heap.size, 1, none⟩ = some (.slice (some ⟨bp, op, none⟩) np nc) ∧ w'.cell? ⟨bp, op + i, none⟩ = some (.slice (some ⟨bi, oi, none⟩) (f i).nl lpc) ∧ w'.cell? ⟨bi, oi + k, none⟩ = some (.int .i64 ((P i).s k))) (first | go_keep | (go_split_ands; refine ⟨?_, ?_, ?_, ?_, ?_, ?_⟩ <;> exact cellLater hB4 (by assumption))) ((first | (go_at_call 60; refine (hmet _).mono ?_; rintro e W4 ⟨rfl, hB4⟩)))
        go_wp2
        go_roundw
        case rel => exact ⟨r + 1, by omega, by go_num, by rw [hct]; go_num, Below.join (Below.join hB (Nat.le_refl _) hA.drew) (Nat.le_refl _) hB4⟩
        case measure => simp [intOf]; omega
    · have hlt' : (L.length : Int) ≤ (r : Int) := by omega
      have hre : L.take r = L := List.take_of_length_le (by omega)
      rw [hre]
      replace hX := hX.later hB
      replace w0 := cellLater hB w0
      have y2 := hX.h2
      have r0 := hX.r0
      have r1 := hX.r1
      have r2 := hX.r2
      have r3 := hX.r3
      have z0 := hX.z0
      have z1 := hX.z1
      have z2 := hX.z2
      have z3 := hX.z3
      generalize L.countP (metB i ((P i).s k)) = cn at hE ⊢
      clear hlt hr hre hcs
      by_cases hbad : g q < (cn : Int)
      · rw [if_pos hbad] at hE
        have hbad' : (cn : Int) > g q := hbad
        go_wp2
        refine bodyPost_ret (v := .agg #[.int .i64 4, .int .i64 i, .int .i64 k, .int .i64 0]) (by simp [results, Tryz.results28, go_sem, r0, r1, r2, r3]) rfl ⟨by first | (rw [hE]; rfl) | (subst hE; rfl), ?_⟩
        exact below_set4 (Below.join hN (Nat.le_refl _) hB) (by omega) _ _ _ _
      · rw [if_neg hbad] at hE
        go_wp2
        refine bodyPost_ret (v := .agg #[.int .i64 0, .int .i64 0, .int .i64 0, .int .i64 0]) (by simp [results, Tryz.results28, go_sem, r0, r1, r2, r3]) rfl ⟨by first | (rw [hE]; rfl) | (subst hE; rfl), ?_⟩
        exact below_set4 (Below.join hN (Nat.le_refl _) hB) (by omega) _ _ _ _
end Go.Proofs.YtelickcfodcmaaaGreatDoor

namespace Go.Proofs.YtelickcfodcmaaaGreatDoor
open Go.RowKit

def firstC (np : Nat) (nl : Nat → Nat) (v : Nat → Nat → Int × Int × Int × Int) : Int × Int × Int × Int :=
  match first2 np nl (fun i k => decide ((v i k).1 = 0)) with
  | some (i, k) => v i k
  | none => (0, 0, 0, 0)
theorem firstC_none {np : Nat} {nl : Nat → Nat} {v : Nat → Nat → Int × Int × Int × Int} (h : ∀ j, j < np → ∀ m, m < nl j → v j m = (0, 0, 0, 0)) : firstC np nl v = (0, 0, 0, 0) := by
  unfold firstC
  rw [first2_none (fun j hj m hm => by rw [h j hj m hm]; rfl)]
theorem firstC_some {np : Nat} {nl : Nat → Nat} {v : Nat → Nat → Int × Int × Int × Int} {i k : Nat} (hi : i < np) (hk : k < nl i) (hb : (v i k).1 ≠ 0) (hrow : ∀ m, m < k → v i m = (0, 0, 0, 0)) (h : ∀ j, j < i → ∀ m, m < nl j → v j m = (0, 0, 0, 0)) : firstC np nl v = v i k := by
  unfold firstC
  rw [first2_some (p := fun i k => decide ((v i k).1 = 0)) hi hk (decide_eq_false hb) (fun m hm => by rw [hrow m hm]; rfl) (fun j hj m hm => by rw [h j hj m hm]; rfl)]

set_option maxRecDepth 20000 in
set_option maxHeartbeats 8000000 in
theorem firstSoon_any (a : Option Addr) (len cap : Nat) (a' : Option Addr) (np cap' : Nat) (f : Nat → TrainD) (c : Option Addr) (nc bT bS : Nat) (v : Nat → Nat → Int × Int × Int × Int) (w : World)
    (hR : RightL len np f) (hT : IsTrains 0 w.heap.size w a' np f) (hv : ∀ i k, i < np → k < (f i).nl → v i k = (0, 0, 0, 0) ∨ (v i k).1 ≠ 0)
    (hlook : ∀ (i k : Nat) (W : World), i < np → k < (f i).nl → Below w.heap.size w W → Calls Tryz.prog 26 #[.agg #[.slice a' np cap', .slice c np nc, .slice a len cap, .map (some bT), .map (some bS)], .int .i64 i, .int .i64 k] W fun e W' => e = .returned (clashV (v i k)) ∧ Below W.heap.size W W') :
    Calls Tryz.prog 25 #[.agg #[.slice a' np cap', .slice c np nc, .slice a len cap, .map (some bT), .map (some bS)], .func (.func 26) #[.agg #[.slice a' np cap', .slice c np nc, .slice a len cap, .map (some bT), .map (some bS)]] #[]] w fun e w' => e = .returned (clashV (firstC np (fun i => (f i).nl) v)) ∧ Below w.heap.size w w' := by
  have hX := LookBox.new w a len cap a' np cap' c nc bT bS 62 33
  have hN := b2 w (.cells #[.slice a' np cap', .slice c np nc, .slice a len cap, .map (some bT), .map (some bS)] 62) (.cells #[.int .i64 0, .int .i64 0, .int .i64 0, .int .i64 0] 33)
  have htr := hR.tr
  obtain ⟨vv, hE⟩ : ∃ vv, firstC np (fun i => (f i).nl) v = vv := ⟨_, rfl⟩
  rw [hE]
  go_enter Tryz.func25, Tryz.ntmps25
  go_wp2
  refine nameW fun W0 hW => ?_
  rw [← hW] at hX hN
  clear hW
  go_loopw [12] (fun ii wr => ∃ (i : Nat), i ≤ np ∧ ii = .int .i64 i ∧ (∀ j, j < i → ∀ m, m < (f j).nl → v j m = (0, 0, 0, 0)) ∧ LookBox w wr a len cap a' np cap' c nc bT bS ∧ Below w.heap.size w wr) (fun ii _ => np - (intOf ii).toNat)
  case atStart => exact ⟨0, Nat.zero_le _, rfl, fun _ h => by omega, hX, hN⟩
  case round =>
    clear hX hN
    obtain ⟨i, hi, rfl, hall, hX, hB⟩ := hrel
    by_cases hlt : i < np
    · obtain ⟨b, off, la, lc, rfl, _, hb, t0, t1, t2, t3, t4, hlg, _⟩ := hT i hlt
      have hnl := (hR.train i hlt).nl
      have hin' : (i : Int) < (np : Int) := by omega
      have hi0 : (0 : Int) ≤ (i : Int) := by omega
      replace t0 := cellLater hB t0
      replace t1 := cellLater hB t1
      replace t2 := cellLater hB t2
      replace t3 := cellLater hB t3
      replace t4 := cellLater hB t4
      have hA := b1 wr (.cells #[.int .i64 (f i).frm, .int .i64 (f i).ready, .int .i64 (f i).due, .int .i64 (f i).weight, .slice la (f i).nl lc] 72)
      go_wp2
      refine nameW fun V hV => ?_
      rw [← hV] at hA
      clear hV t0 t1 t2 t3 t4
      replace hX := hX.later hA
      replace hB := Below.join hB (Nat.le_refl _) hA
      clear hA
      go_loopw [20] (fun kk wr2 => ∃ (k : Nat), k ≤ (f i).nl ∧ kk = .int .i64 k ∧ (∀ m, m < k → v i m = (0, 0, 0, 0)) ∧ LookBox w wr2 a len cap (some ⟨b, off, none⟩) np cap' c nc bT bS ∧ Below w.heap.size w wr2) (fun kk _ => (f i).nl - (intOf kk).toNat)
      case atStart => exact ⟨0, Nat.zero_le _, rfl, fun _ h => by omega, hX, hB⟩
      case round =>
        clear hX hB
        obtain ⟨k, hk, rfl, hall2, hX, hB⟩ := hrel
        by_cases hlt2 : k < (f i).nl
        · have hkn : (k : Int) < ((f i).nl : Int) := by omega
          have hl := hlook i k wr hlt hlt2 hB
          rcases hv i k hlt hlt2 with hz | hz
          · rw [hz] at hl
            dsimp only [clashV] at hl
            go_wp2_with (go_at_call 26; refine hl.mono ?_; rintro _ W4 ⟨rfl, hB4⟩)
            go_roundw
            case rel => exact ⟨k + 1, by omega, by go_num, fun m hm => (by by_cases e : m = k; (· subst e; exact hz); (· exact hall2 m (by omega))), (hX.later hB4).later (b1 _ _), Below.join (Below.join hB (Nat.le_refl _) hB4) (Nat.le_refl _) (b1 _ _)⟩
            case measure => simp [intOf]; omega
          · have hve := hE.symm.trans (firstC_some (nl := fun i => (f i).nl) hlt hlt2 hz hall2 hall)
            generalize v i k = vq at hl hz hve
            obtain ⟨v0, v1, v2, v3⟩ := vq
            dsimp only at hz
            have hz' : (v0 == 0) = false := by simpa using hz
            dsimp only [clashV] at hl
            go_wp2_with (go_at_call 26; refine hl.mono ?_; rintro _ W4 ⟨rfl, hB4⟩; replace hX := hX.later hB4; have r0 := hX.r0; have r1 := hX.r1; have r2 := hX.r2; have r3 := hX.r3; have z0 := hX.z0; have z1 := hX.z1; have z2 := hX.z2; have z3 := hX.z3; have lw : w.heap.size + 1 < W4.heap.size := ltCell r0)
            refine bodyPost_ret (v := .agg #[.int .i64 v0, .int .i64 v1, .int .i64 v2, .int .i64 v3]) (by simp [results, Tryz.results25, go_sem, r0, r1, r2, r3, lw, World.cell?_alloc_lt]) rfl ⟨by first | (rw [hve]; rfl) | (subst hve; rfl), ?_⟩
            exact (below_set4 (Below.join hB (Nat.le_refl _) hB4) (by omega) _ _ _ _).alloc (by simp; omega) _
        · have hke : Hid (k = (f i).nl) := (by omega : k = (f i).nl)
          have hkn : ((f i).nl : Int) ≤ (k : Int) := by omega
          clear hlt2 hk
          go_wp2
          go_roundw
          case rel => exact ⟨i + 1, by omega, by go_num, fun j hj => (by by_cases e : j = i; (· subst e; intro m hm; exact hall2 m (by rw [hke.out]; exact hm)); (· exact hall j (by omega))), hX, hB⟩
          case measure => simp [intOf]; omega
    · have hie : Hid (i = np) := (by omega : i = np)
      have hin' : (np : Int) ≤ (i : Int) := by omega
      have hve := hE.symm.trans (firstC_none (nl := fun i => (f i).nl) (fun j hj => hall j (by rw [hie.out]; exact hj)))
      have r0 := hX.r0
      have r1 := hX.r1
      have r2 := hX.r2
      have r3 := hX.r3
      have z0 := hX.z0
      have z1 := hX.z1
      have z2 := hX.z2
      have z3 := hX.z3
      clear hlt hi hall
      go_wp2
      refine bodyPost_ret (v := .agg #[.int .i64 0, .int .i64 0, .int .i64 0, .int .i64 0]) (by simp [results, Tryz.results25, go_sem, r0, r1, r2, r3]) rfl ⟨by first | (rw [hve]; rfl) | (subst hve; rfl), ?_⟩
      exact below_set4 hB (by omega) _ _ _ _

set_option maxRecDepth 20000 in
set_option maxHeartbeats 8000000 in
theorem firstTaken_any (a : Option Addr) (len cap : Nat) (a' : Option Addr) (np cap' : Nat) (f : Nat → TrainD) (c : Option Addr) (nc bT bS : Nat) (v : Nat → Nat → Int × Int × Int × Int) (w : World)
    (hR : RightL len np f) (hT : IsTrains 0 w.heap.size w a' np f) (hv : ∀ i k, i < np → k < (f i).nl → v i k = (0, 0, 0, 0) ∨ (v i k).1 ≠ 0)
    (hlook : ∀ (i k : Nat) (W : World), i < np → k < (f i).nl → Below w.heap.size w W → Calls Tryz.prog 27 #[.agg #[.slice a' np cap', .slice c np nc, .slice a len cap, .map (some bT), .map (some bS)], .int .i64 i, .int .i64 k] W fun e W' => e = .returned (clashV (v i k)) ∧ Below W.heap.size W W') :
    Calls Tryz.prog 25 #[.agg #[.slice a' np cap', .slice c np nc, .slice a len cap, .map (some bT), .map (some bS)], .func (.func 27) #[.agg #[.slice a' np cap', .slice c np nc, .slice a len cap, .map (some bT), .map (some bS)]] #[]] w fun e w' => e = .returned (clashV (firstC np (fun i => (f i).nl) v)) ∧ Below w.heap.size w w' := by
  have hX := LookBox.new w a len cap a' np cap' c nc bT bS 62 33
  have hN := b2 w (.cells #[.slice a' np cap', .slice c np nc, .slice a len cap, .map (some bT), .map (some bS)] 62) (.cells #[.int .i64 0, .int .i64 0, .int .i64 0, .int .i64 0] 33)
  have htr := hR.tr
  obtain ⟨vv, hE⟩ : ∃ vv, firstC np (fun i => (f i).nl) v = vv := ⟨_, rfl⟩
  rw [hE]
  go_enter Tryz.func25, Tryz.ntmps25
  go_wp2
  refine nameW fun W0 hW => ?_
  rw [← hW] at hX hN
  clear hW
  go_loopw [12] (fun ii wr => ∃ (i : Nat), i ≤ np ∧ ii = .int .i64 i ∧ (∀ j, j < i → ∀ m, m < (f j).nl → v j m = (0, 0, 0, 0)) ∧ LookBox w wr a len cap a' np cap' c nc bT bS ∧ Below w.heap.size w wr) (fun ii _ => np - (intOf ii).toNat)
  case atStart => exact ⟨0, Nat.zero_le _, rfl, fun _ h => by omega, hX, hN⟩
  case round =>
    clear hX hN
    obtain ⟨i, hi, rfl, hall, hX, hB⟩ := hrel
    by_cases hlt : i < np
    · obtain ⟨b, off, la, lc, rfl, _, hb, t0, t1, t2, t3, t4, hlg, _⟩ := hT i hlt
      have hnl := (hR.train i hlt).nl
      have hin' : (i : Int) < (np : Int) := by omega
      have hi0 : (0 : Int) ≤ (i : Int) := by omega
      replace t0 := cellLater hB t0
      replace t1 := cellLater hB t1
      replace t2 := cellLater hB t2
      replace t3 := cellLater hB t3
      replace t4 := cellLater hB t4
      have hA := b1 wr (.cells #[.int .i64 (f i).frm, .int .i64 (f i).ready, .int .i64 (f i).due, .int .i64 (f i).weight, .slice la (f i).nl lc] 72)
      go_wp2
      refine nameW fun V hV => ?_
      rw [← hV] at hA
      clear hV t0 t1 t2 t3 t4
      replace hX := hX.later hA
      replace hB := Below.join hB (Nat.le_refl _) hA
      clear hA
      go_loopw [20] (fun kk wr2 => ∃ (k : Nat), k ≤ (f i).nl ∧ kk = .int .i64 k ∧ (∀ m, m < k → v i m = (0, 0, 0, 0)) ∧ LookBox w wr2 a len cap (some ⟨b, off, none⟩) np cap' c nc bT bS ∧ Below w.heap.size w wr2) (fun kk _ => (f i).nl - (intOf kk).toNat)
      case atStart => exact ⟨0, Nat.zero_le _, rfl, fun _ h => by omega, hX, hB⟩
      case round =>
        clear hX hB
        obtain ⟨k, hk, rfl, hall2, hX, hB⟩ := hrel
        by_cases hlt2 : k < (f i).nl
        · have hkn : (k : Int) < ((f i).nl : Int) := by omega
          have hl := hlook i k wr hlt hlt2 hB
          rcases hv i k hlt hlt2 with hz | hz
          · rw [hz] at hl
            dsimp only [clashV] at hl
            go_wp2_with (go_at_call 27; refine hl.mono ?_; rintro _ W4 ⟨rfl, hB4⟩)
            go_roundw
            case rel => exact ⟨k + 1, by omega, by go_num, fun m hm => (by by_cases e : m = k; (· subst e; exact hz); (· exact hall2 m (by omega))), (hX.later hB4).later (b1 _ _), Below.join (Below.join hB (Nat.le_refl _) hB4) (Nat.le_refl _) (b1 _ _)⟩
            case measure => simp [intOf]; omega
          · have hve := hE.symm.trans (firstC_some (nl := fun i => (f i).nl) hlt hlt2 hz hall2 hall)
            generalize v i k = vq at hl hz hve
            obtain ⟨v0, v1, v2, v3⟩ := vq
            dsimp only at hz
            have hz' : (v0 == 0) = false := by simpa using hz
            dsimp only [clashV] at hl
            go_wp2_with (go_at_call 27; refine hl.mono ?_; rintro _ W4 ⟨rfl, hB4⟩; replace hX := hX.later hB4; have r0 := hX.r0; have r1 := hX.r1; have r2 := hX.r2; have r3 := hX.r3; have z0 := hX.z0; have z1 := hX.z1; have z2 := hX.z2; have z3 := hX.z3; have lw : w.heap.size + 1 < W4.heap.size := ltCell r0)
            refine bodyPost_ret (v := .agg #[.int .i64 v0, .int .i64 v1, .int .i64 v2, .int .i64 v3]) (by simp [results, Tryz.results25, go_sem, r0, r1, r2, r3, lw, World.cell?_alloc_lt]) rfl ⟨by first | (rw [hve]; rfl) | (subst hve; rfl), ?_⟩
            exact (below_set4 (Below.join hB (Nat.le_refl _) hB4) (by omega) _ _ _ _).alloc (by simp; omega) _
        · have hke : Hid (k = (f i).nl) := (by omega : k = (f i).nl)
          have hkn : ((f i).nl : Int) ≤ (k : Int) := by omega
          clear hlt2 hk
          go_wp2
          go_roundw
          case rel => exact ⟨i + 1, by omega, by go_num, fun j hj => (by by_cases e : j = i; (· subst e; intro m hm; exact hall2 m (by rw [hke.out]; exact hm)); (· exact hall j (by omega))), hX, hB⟩
          case measure => simp [intOf]; omega
    · have hie : Hid (i = np) := (by omega : i = np)
      have hin' : (np : Int) ≤ (i : Int) := by omega
      have hve := hE.symm.trans (firstC_none (nl := fun i => (f i).nl) (fun j hj => hall j (by rw [hie.out]; exact hj)))
      have r0 := hX.r0
      have r1 := hX.r1
      have r2 := hX.r2
      have r3 := hX.r3
      have z0 := hX.z0
      have z1 := hX.z1
      have z2 := hX.z2
      have z3 := hX.z3
      clear hlt hi hall
      go_wp2
      refine bodyPost_ret (v := .agg #[.int .i64 0, .int .i64 0, .int .i64 0, .int .i64 0]) (by simp [results, Tryz.results25, go_sem, r0, r1, r2, r3]) rfl ⟨by first | (rw [hve]; rfl) | (subst hve; rfl), ?_⟩
      exact below_set4 hB (by omega) _ _ _ _

set_option maxRecDepth 20000 in
set_option maxHeartbeats 8000000 in
theorem firstFull_any (a : Option Addr) (len cap : Nat) (a' : Option Addr) (np cap' : Nat) (f : Nat → TrainD) (c : Option Addr) (nc bT bS : Nat) (v : Nat → Nat → Int × Int × Int × Int) (w : World)
    (hR : RightL len np f) (hT : IsTrains 0 w.heap.size w a' np f) (hv : ∀ i k, i < np → k < (f i).nl → v i k = (0, 0, 0, 0) ∨ (v i k).1 ≠ 0)
    (hlook : ∀ (i k : Nat) (W : World), i < np → k < (f i).nl → Below w.heap.size w W → Calls Tryz.prog 28 #[.agg #[.slice a' np cap', .slice c np nc, .slice a len cap, .map (some bT), .map (some bS)], .int .i64 i, .int .i64 k] W fun e W' => e = .returned (clashV (v i k)) ∧ Below W.heap.size W W') :
    Calls Tryz.prog 25 #[.agg #[.slice a' np cap', .slice c np nc, .slice a len cap, .map (some bT), .map (some bS)], .func (.func 28) #[.agg #[.slice a' np cap', .slice c np nc, .slice a len cap, .map (some bT), .map (some bS)]] #[]] w fun e w' => e = .returned (clashV (firstC np (fun i => (f i).nl) v)) ∧ Below w.heap.size w w' := by
  have hX := LookBox.new w a len cap a' np cap' c nc bT bS 62 33
  have hN := b2 w (.cells #[.slice a' np cap', .slice c np nc, .slice a len cap, .map (some bT), .map (some bS)] 62) (.cells #[.int .i64 0, .int .i64 0, .int .i64 0, .int .i64 0] 33)
  have htr := hR.tr
  obtain ⟨vv, hE⟩ : ∃ vv, firstC np (fun i => (f i).nl) v = vv := ⟨_, rfl⟩
  rw [hE]
  go_enter Tryz.func25, Tryz.ntmps25
  go_wp2
  refine nameW fun W0 hW => ?_
  rw [← hW] at hX hN
  clear hW
  go_loopw [12] (fun ii wr => ∃ (i : Nat), i ≤ np ∧ ii = .int .i64 i ∧ (∀ j, j < i → ∀ m, m < (f j).nl → v j m = (0, 0, 0, 0)) ∧ LookBox w wr a len cap a' np cap' c nc bT bS ∧ Below w.heap.size w wr) (fun ii _ => np - (intOf ii).toNat)
  case atStart => exact ⟨0, Nat.zero_le _, rfl, fun _ h => by omega, hX, hN⟩
  case round =>
    clear hX hN
    obtain ⟨i, hi, rfl, hall, hX, hB⟩ := hrel
    by_cases hlt : i < np
    · obtain ⟨b, off, la, lc, rfl, _, hb, t0, t1, t2, t3, t4, hlg, _⟩ := hT i hlt
      have hnl := (hR.train i hlt).nl
      have hin' : (i : Int) < (np : Int) := by omega
      have hi0 : (0 : Int) ≤ (i : Int) := by omega
      replace t0 := cellLater hB t0
      replace t1 := cellLater hB t1
      replace t2 := cellLater hB t2
      replace t3 := cellLater hB t3
      replace t4 := cellLater hB t4
      have hA := b1 wr (.cells #[.int .i64 (f i).frm, .int .i64 (f i).ready, .int .i64 (f i).due, .int .i64 (f i).weight, .slice la (f i).nl lc] 72)
      go_wp2
      refine nameW fun V hV => ?_
      rw [← hV] at hA
      clear hV t0 t1 t2 t3 t4
      replace hX := hX.later hA
      replace hB := Below.join hB (Nat.le_refl _) hA
      clear hA
      go_loopw [20] (fun kk wr2 => ∃ (k : Nat), k ≤ (f i).nl ∧ kk = .int .i64 k ∧ (∀ m, m < k → v i m = (0, 0, 0, 0)) ∧ LookBox w wr2 a len cap (some ⟨b, off, none⟩) np cap' c nc bT bS ∧ Below w.heap.size w wr2) (fun kk _ => (f i).nl - (intOf kk).toNat)
      case atStart => exact ⟨0, Nat.zero_le _, rfl, fun _ h => by omega, hX, hB⟩
      case round =>
        clear hX hB
        obtain ⟨k, hk, rfl, hall2, hX, hB⟩ := hrel
        by_cases hlt2 : k < (f i).nl
        · have hkn : (k : Int) < ((f i).nl : Int) := by omega
          have hl := hlook i k wr hlt hlt2 hB
          rcases hv i k hlt hlt2 with hz | hz
          · rw [hz] at hl
            dsimp only [clashV] at hl
            go_wp2_with (go_at_call 28; refine hl.mono ?_; rintro _ W4 ⟨rfl, hB4⟩)
            go_roundw
            case rel => exact ⟨k + 1, by omega, by go_num, fun m hm => (by by_cases e : m = k; (· subst e; exact hz); (· exact hall2 m (by omega))), (hX.later hB4).later (b1 _ _), Below.join (Below.join hB (Nat.le_refl _) hB4) (Nat.le_refl _) (b1 _ _)⟩
            case measure => simp [intOf]; omega
          · have hve := hE.symm.trans (firstC_some (nl := fun i => (f i).nl) hlt hlt2 hz hall2 hall)
            generalize v i k = vq at hl hz hve
            obtain ⟨v0, v1, v2, v3⟩ := vq
            dsimp only at hz
            have hz' : (v0 == 0) = false := by simpa using hz
            dsimp only [clashV] at hl
            go_wp2_with (go_at_call 28; refine hl.mono ?_; rintro _ W4 ⟨rfl, hB4⟩; replace hX := hX.later hB4; have r0 := hX.r0; have r1 := hX.r1; have r2 := hX.r2; have r3 := hX.r3; have z0 := hX.z0; have z1 := hX.z1; have z2 := hX.z2; have z3 := hX.z3; have lw : w.heap.size + 1 < W4.heap.size := ltCell r0)
            refine bodyPost_ret (v := .agg #[.int .i64 v0, .int .i64 v1, .int .i64 v2, .int .i64 v3]) (by simp [results, Tryz.results25, go_sem, r0, r1, r2, r3, lw, World.cell?_alloc_lt]) rfl ⟨by first | (rw [hve]; rfl) | (subst hve; rfl), ?_⟩
            exact (below_set4 (Below.join hB (Nat.le_refl _) hB4) (by omega) _ _ _ _).alloc (by simp; omega) _
        · have hke : Hid (k = (f i).nl) := (by omega : k = (f i).nl)
          have hkn : ((f i).nl : Int) ≤ (k : Int) := by omega
          clear hlt2 hk
          go_wp2
          go_roundw
          case rel => exact ⟨i + 1, by omega, by go_num, fun j hj => (by by_cases e : j = i; (· subst e; intro m hm; exact hall2 m (by rw [hke.out]; exact hm)); (· exact hall j (by omega))), hX, hB⟩
          case measure => simp [intOf]; omega
    · have hie : Hid (i = np) := (by omega : i = np)
      have hin' : (np : Int) ≤ (i : Int) := by omega
      have hve := hE.symm.trans (firstC_none (nl := fun i => (f i).nl) (fun j hj => hall j (by rw [hie.out]; exact hj)))
      have r0 := hX.r0
      have r1 := hX.r1
      have r2 := hX.r2
      have r3 := hX.r3
      have z0 := hX.z0
      have z1 := hX.z1
      have z2 := hX.z2
      have z3 := hX.z3
      clear hlt hi hall
      go_wp2
      refine bodyPost_ret (v := .agg #[.int .i64 0, .int .i64 0, .int .i64 0, .int .i64 0]) (by simp [results, Tryz.results25, go_sem, r0, r1, r2, r3]) rfl ⟨by first | (rw [hve]; rfl) | (subst hve; rfl), ?_⟩
      exact below_set4 hB (by omega) _ _ _ _
end Go.Proofs.YtelickcfodcmaaaGreatDoor

namespace Go.Proofs.YtelickcfodcmaaaGreatDoor
open Go.RowKit

def orC (v : Nat → Int × Int × Int × Int) : Int × Int × Int × Int :=
  if (v 0).1 ≠ 0 then v 0 else if (v 1).1 ≠ 0 then v 1 else if (v 2).1 ≠ 0 then v 2 else (0, 0, 0, 0)
theorem orC_at {v : Nat → Int × Int × Int × Int} {k : Nat} (hk : k < 3) (hz : (v k).1 ≠ 0) (h : ∀ j, j < k → v j = (0, 0, 0, 0)) : orC v = v k := by
  unfold orC
  match k, hk with
  | 0, _ => rw [if_pos hz]
  | 1, _ => rw [if_neg (by rw [h 0 (by omega)]; simp), if_pos hz]
  | 2, _ => rw [if_neg (by rw [h 0 (by omega)]; simp), if_neg (by rw [h 1 (by omega)]; simp), if_pos hz]
theorem orC_none {v : Nat → Int × Int × Int × Int} (h : ∀ j, j < 3 → v j = (0, 0, 0, 0)) : orC v = (0, 0, 0, 0) := by
  unfold orC
  rw [if_neg (by rw [h 0 (by omega)]; simp), if_neg (by rw [h 1 (by omega)]; simp), if_neg (by rw [h 2 (by omega)]; simp)]

/-- the answer's box and the zero value's -/
structure OrBox (w W : World) : Prop where
  r0 : W.cell? ⟨w.heap.size, 0, none⟩ = some (.int .i64 0)
  r1 : W.cell? ⟨w.heap.size, 1, none⟩ = some (.int .i64 0)
  r2 : W.cell? ⟨w.heap.size, 2, none⟩ = some (.int .i64 0)
  r3 : W.cell? ⟨w.heap.size, 3, none⟩ = some (.int .i64 0)
  z0 : W.frozen? ⟨w.heap.size, 0, none⟩ = false
  z1 : W.frozen? ⟨w.heap.size, 1, none⟩ = false
  z2 : W.frozen? ⟨w.heap.size, 2, none⟩ = false
  z3 : W.frozen? ⟨w.heap.size, 3, none⟩ = false
  n0 : W.cell? ⟨w.heap.size + 1, 0, none⟩ = some (.int .i64 0)
  n1 : W.cell? ⟨w.heap.size + 1, 1, none⟩ = some (.int .i64 0)
  n2 : W.cell? ⟨w.heap.size + 1, 2, none⟩ = some (.int .i64 0)
  n3 : W.cell? ⟨w.heap.size + 1, 3, none⟩ = some (.int .i64 0)
theorem OrBox.later {w W W' : World} (h : OrBox w W) (hb : Below W.heap.size W W') : OrBox w W' :=
  ⟨cellLater hb h.r0, cellLater hb h.r1, cellLater hb h.r2, cellLater hb h.r3, frozenLater hb h.r0 h.z0, frozenLater hb h.r1 h.z1, frozenLater hb h.r2 h.z2, frozenLater hb h.r3 h.z3, cellLater hb h.n0, cellLater hb h.n1, cellLater hb h.n2, cellLater hb h.n3⟩
theorem box4 (w : World) (x0 x1 x2 x3 : Value) (t : TypeId) : ((w.alloc (.cells #[x0, x1, x2, x3] t)).cell? ⟨w.heap.size, 0, none⟩ = some x0 ∧ (w.alloc (.cells #[x0, x1, x2, x3] t)).cell? ⟨w.heap.size, 1, none⟩ = some x1 ∧ (w.alloc (.cells #[x0, x1, x2, x3] t)).cell? ⟨w.heap.size, 2, none⟩ = some x2 ∧ (w.alloc (.cells #[x0, x1, x2, x3] t)).cell? ⟨w.heap.size, 3, none⟩ = some x3) ∧
    ((w.alloc (.cells #[x0, x1, x2, x3] t)).frozen? ⟨w.heap.size, 0, none⟩ = false ∧ (w.alloc (.cells #[x0, x1, x2, x3] t)).frozen? ⟨w.heap.size, 1, none⟩ = false ∧ (w.alloc (.cells #[x0, x1, x2, x3] t)).frozen? ⟨w.heap.size, 2, none⟩ = false ∧ (w.alloc (.cells #[x0, x1, x2, x3] t)).frozen? ⟨w.heap.size, 3, none⟩ = false) := by
  refine ⟨by simp, ?_, ?_, ?_, ?_⟩ <;> rw [World.frozen?_alloc_at _ _ _ _ rfl]
theorem OrBox.new (w : World) (t t' : TypeId) : OrBox w ((w.alloc (.cells #[.int .i64 0, .int .i64 0, .int .i64 0, .int .i64 0] t)).alloc (.cells #[.int .i64 0, .int .i64 0, .int .i64 0, .int .i64 0] t')) := by
  obtain ⟨⟨r0, r1, r2, r3⟩, z0, z1, z2, z3⟩ := box4 w (.int .i64 0) (.int .i64 0) (.int .i64 0) (.int .i64 0) t
  obtain ⟨⟨n0, n1, n2, n3⟩, _⟩ := box4 (w.alloc (.cells #[.int .i64 0, .int .i64 0, .int .i64 0, .int .i64 0] t)) (.int .i64 0) (.int .i64 0) (.int .i64 0) (.int .i64 0) t'
  have hb := b1 (w.alloc (.cells #[.int .i64 0, .int .i64 0, .int .i64 0, .int .i64 0] t)) (.cells #[.int .i64 0, .int .i64 0, .int .i64 0, .int .i64 0] t')
  have es : (w.alloc (.cells #[.int .i64 0, .int .i64 0, .int .i64 0, .int .i64 0] t)).heap.size = w.heap.size + 1 := by simp
  rw [es] at n0 n1 n2 n3
  exact ⟨cellLater hb r0, cellLater hb r1, cellLater hb r2, cellLater hb r3, frozenLater hb r0 z0, frozenLater hb r1 z1, frozenLater hb r2 z2, frozenLater hb r3 z3, n0, n1, n2, n3⟩

set_option maxRecDepth 20000 in
set_option maxHeartbeats 8000000 in
theorem or_any (b off cap : Nat) (v : Nat → Int × Int × Int × Int) (w : World) (hv : ∀ k, k < 3 → v k = (0, 0, 0, 0) ∨ (v k).1 ≠ 0)
    (hc : ∀ k, k < 3 → w.cell? ⟨b, off + k * 4, none⟩ = some (.int .i64 (v k).1) ∧ w.cell? ⟨b, off + k * 4 + 1, none⟩ = some (.int .i64 (v k).2.1) ∧ w.cell? ⟨b, off + k * 4 + 2, none⟩ = some (.int .i64 (v k).2.2.1) ∧ w.cell? ⟨b, off + k * 4 + 3, none⟩ = some (.int .i64 (v k).2.2.2)) :
    Calls Tryz.prog 24 #[.slice (some ⟨b, off, none⟩) 3 cap] w fun e w' => e = .returned (clashV (orC v)) ∧ Below w.heap.size w w' := by
  have hX := OrBox.new w 33 33
  have hN := b2 w (.cells #[.int .i64 0, .int .i64 0, .int .i64 0, .int .i64 0] 33) (.cells #[.int .i64 0, .int .i64 0, .int .i64 0, .int .i64 0] 33)
  obtain ⟨vv, hE⟩ : ∃ vv, orC v = vv := ⟨_, rfl⟩
  rw [hE]
  go_enter Tryz.func24, Tryz.ntmps24
  go_wp2
  refine nameW fun W0 hW => ?_
  rw [← hW] at hX hN
  clear hW
  go_loopw [8] (fun kk wr => ∃ (k : Nat), k ≤ 3 ∧ kk = .int .i64 k ∧ (∀ j, j < k → v j = (0, 0, 0, 0)) ∧ OrBox w wr ∧ Below w.heap.size w wr) (fun kk _ => 3 - (intOf kk).toNat)
  case atStart => exact ⟨0, Nat.zero_le _, rfl, fun _ h => by omega, hX, hN⟩
  case round =>
    clear hX hN
    obtain ⟨k, hk, rfl, hall, hX, hB⟩ := hrel
    have n0 := hX.n0
    have n1 := hX.n1
    have n2 := hX.n2
    have n3 := hX.n3
    have ln : w.heap.size + 1 < wr.heap.size := ltCell n0
    by_cases hlt : k < 3
    · have hlt' : (k : Int) < 3 := by omega
      have hk0 : (0 : Int) ≤ (k : Int) := by omega
      obtain ⟨c0, c1, c2, c3⟩ := hc k hlt
      replace c0 := cellLater hB c0
      replace c1 := cellLater hB c1
      replace c2 := cellLater hB c2
      replace c3 := cellLater hB c3
      rcases hv k hlt with hz | hz
      · rw [hz] at c0 c1 c2 c3
        dsimp only at c0 c1 c2 c3
        go_wp2
        go_roundw
        case rel => exact ⟨k + 1, by omega, by go_num, fun j hj => (by by_cases e : j = k; (· subst e; exact hz); (· exact hall j (by omega))), hX.later (b1 _ _), Below.join hB (Nat.le_refl _) (b1 _ _)⟩
        case measure => simp [intOf]; omega
      · have hve := hE.symm.trans (orC_at hlt hz hall)
        generalize v k = vq at c0 c1 c2 c3 hz hve
        obtain ⟨v0, v1, v2, v3⟩ := vq
        dsimp only at c0 c1 c2 c3 hz
        have hz' : (v0 == 0) = false := by simpa using hz
        have r0 := hX.r0
        have r1 := hX.r1
        have r2 := hX.r2
        have r3 := hX.r3
        have z0 := hX.z0
        have z1 := hX.z1
        have z2 := hX.z2
        have z3 := hX.z3
        have lw : w.heap.size < wr.heap.size := ltCell r0
        go_wp2
        refine bodyPost_ret (v := .agg #[.int .i64 v0, .int .i64 v1, .int .i64 v2, .int .i64 v3]) (by simp [results, Tryz.results24, go_sem, r0, r1, r2, r3, lw, World.cell?_alloc_lt]) rfl ⟨by first | (rw [hve]; rfl) | (subst hve; rfl), ?_⟩
        exact (below_set4 hB (by omega) _ _ _ _).alloc (by simp; omega) _
    · have hlt' : (3 : Int) ≤ (k : Int) := by omega
      have hve := hE.symm.trans (orC_none (fun j hj => hall j (by omega)))
      have r0 := hX.r0
      have r1 := hX.r1
      have r2 := hX.r2
      have r3 := hX.r3
      have z0 := hX.z0
      have z1 := hX.z1
      have z2 := hX.z2
      have z3 := hX.z3
      clear hlt hk
      go_wp2
      refine bodyPost_ret (v := .agg #[.int .i64 0, .int .i64 0, .int .i64 0, .int .i64 0]) (by simp [results, Tryz.results24, go_sem, r0, r1, r2, r3]) rfl ⟨by first | (rw [hve]; rfl) | (subst hve; rfl), ?_⟩
      exact below_set4 hB (by omega) _ _ _ _
end Go.Proofs.YtelickcfodcmaaaGreatDoor
