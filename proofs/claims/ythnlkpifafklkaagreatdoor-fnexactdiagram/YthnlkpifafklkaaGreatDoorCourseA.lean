/-
  A plan as a diagram, over plain data.
  When a train is where, by the program: a row of stands.
  A train's course, by the program.
-/
import Derived.Test.YthnlkpifafklkaaGreatDoorTextA
import Derived.Test.YthnlkpifafklkaaGreatDoorLateQ
import Derived.Test.YthnlkpifafklkaaGreatDoorApp
import Derived.Test.YthnlkpifafklkaaGreatDoorImplS
import Derived.Test.YthnlkpifafklkaaGreatDoorPlansC
namespace Go.Proofs.YthnlkpifafklkaaGreatDoor
open Go.RowKit

/-- where a train stands, and up to when -/
def standT (s e : Int) : List UInt8 := [32] ++ Lib.itoa s ++ [64] ++ Lib.itoa e
/-- the first k stands, behind b -/
def standsT (t : TrainD) (r : RowD) (b : List UInt8) : Nat → List UInt8
  | 0 => b
  | k + 1 => standsT t r b k ++ standT (cur t k) (toOf t r k)
def lateT (t : TrainD) (e : Int) : List UInt8 := if t.due < e then [32, 108, 97, 116, 101, 32] ++ Lib.itoa (e - t.due) else []
def courseT (t : TrainD) (r : RowD) : List UInt8 := standsT t r [] (t.nl + 1) ++ lateT t (fromOf t r t.nl)
def letterT (i : Nat) : List UInt8 := [UInt8.ofNat (65 + i)]
def diagT (f : Nat → TrainD) (P : Nat → RowD) : Nat → List UInt8
  | 0 => []
  | i + 1 => diagT f P i ++ (letterT i ++ courseT (f i) (P i) ++ [10])
def diagOf (nt : Nat) (g : Nat → Int) (gap : Int) (ntr : Nat) (f : Nat → TrainD) (np : Nat) (P : Nat → RowD) : List UInt8 :=
  if clashOf nt g gap ntr f np P = (0, 0, 0, 0) then diagT f P ntr else []
theorem standsT_app (t : TrainD) (r : RowD) (b : List UInt8) : ∀ k, standsT t r b k = b ++ standsT t r [] k
  | 0 => by simp [standsT]
  | k + 1 => by simp only [standsT]; rw [standsT_app t r b k, List.append_assoc]
/-- as the model writes it: behind what lies already -/
theorem diagT_row (f : Nat → TrainD) (P : Nat → RowD) (i : Nat) : diagT f P (i + 1) = standsT (f i) (P i) (diagT f P i ++ letterT i) ((f i).nl + 1) ++ lateT (f i) (fromOf (f i) (P i) (f i).nl) ++ [10] := by
  simp only [diagT, courseT]
  rw [standsT_app (f i) (P i) (diagT f P i ++ letterT i)]
  simp [List.append_assoc]
theorem fromOf_end (f : Nat → TrainD) (P : Nat → RowD) {i : Nat} (h : 0 < (f i).nl) : fromOf (f i) (P i) (f i).nl = endP f P i := by
  obtain ⟨e, he⟩ : ∃ e, (f i).nl = e + 1 := ⟨(f i).nl - 1, by omega⟩
  unfold endP
  rw [he]
  rfl
theorem standT_len {s e : Int} (h0 : 0 ≤ s) (h1 : s ≤ 99999999) (h2 : 0 ≤ e) (h3 : e ≤ 99999999) : (standT s e).length ≤ 18 := by
  have := itoa_len h0 h1
  have := itoa_len h2 h3
  simp only [standT, List.length_append, List.length_cons, List.length_nil]; omega
theorem lateT_len {t : TrainD} {e : Int} (h0 : 0 ≤ t.due) (h3 : e ≤ 99999999) : (lateT t e).length ≤ 14 := by
  unfold lateT
  split
  · have := itoa_len (n := e - t.due) (by omega) (by omega)
    simp only [List.length_append, List.length_cons, List.length_nil]; omega
  · simp
/-- the numbers of a train's stands are small -/
structure SmallS (t : TrainD) (r : RowD) : Prop where
  st : ∀ k, k ≤ t.nl → 0 ≤ cur t k ∧ cur t k ≤ 99999999
  to : ∀ k, k ≤ t.nl → 0 ≤ toOf t r k ∧ toOf t r k ≤ 99999999
  nl : t.nl ≤ 10
  pos : 0 < t.nl
  d0 : 0 ≤ t.due
  d1 : t.due ≤ 99999999
theorem toOf_end (t : TrainD) (r : RowD) : toOf t r t.nl = fromOf t r t.nl := by unfold toOf; rw [if_neg (by omega)]
theorem standsT_len {t : TrainD} {r : RowD} {b : List UInt8} (h : SmallS t r) : ∀ k, k ≤ t.nl + 1 → (standsT t r b k).length ≤ b.length + 18 * k
  | 0, _ => by simp [standsT]
  | k + 1, hk => by
    have h1 := standsT_len (b := b) h k (by omega)
    have h2 := h.st k (by omega)
    have h3 := h.to k (by omega)
    have h4 := standT_len h2.1 h2.2 h3.1 h3.2
    simp only [standsT, List.length_append]; omega
theorem courseT_len {t : TrainD} {r : RowD} (h : SmallS t r) : (courseT t r).length ≤ 220 := by
  have h1 := standsT_len (b := []) h (t.nl + 1) (Nat.le_refl _)
  have h2 := h.to t.nl (Nat.le_refl _)
  rw [toOf_end] at h2
  have h3 := lateT_len (t := t) (e := fromOf t r t.nl) h.d0 h2.2
  have h4 := h.nl
  simp only [courseT, List.length_append, List.length_nil] at *; omega
theorem diagT_len {f : Nat → TrainD} {P : Nat → RowD} {np : Nat} (h : ∀ i, i < np → SmallS (f i) (P i)) : ∀ i, i ≤ np → (diagT f P i).length ≤ 222 * i
  | 0, _ => by simp [diagT]
  | i + 1, hi => by
    have h1 := diagT_len h i (by omega)
    have h2 := courseT_len (h i (by omega))
    simp only [diagT, letterT, List.length_append, List.length_cons, List.length_nil]; omega
theorem smallS_of {nt ntr : Nat} {g : Nat → Int} {gap : Int} {f : Nat → TrainD} {P : Nat → RowD} (h : faultOf nt g gap ntr f = (0, 0)) (hS : shapeB ntr f ntr P = true) {i : Nat} (hi : i < ntr) : SmallS (f i) (P i) := by
  have hL := smallL_of h
  have hR := rightL_of h
  have hQ := rightP_of hS
  obtain ⟨⟨h1, h2, h3, h4⟩, h5⟩ := hL.tr i hi
  have hto : ∀ k, k < (f i).nl → 0 ≤ (P i).s k ∧ (P i).s k ≤ 1000000 := fun k hk => hQ.at0 i hi k hk
  refine ⟨fun k hk => ?_, fun k hk => ?_, h5, hR.pos i hi, h3.1, h3.2⟩
  · cases k with
    | zero => exact h1
    | succ m => exact (hL.leg i hi m (by omega)).1
  · unfold toOf
    split
    · have := hto k (by assumption); omega
    · have hpos := hR.pos i hi
      obtain ⟨e, he⟩ : ∃ e, k = e + 1 := ⟨k - 1, by omega⟩
      subst he
      have h6 := hto e (by omega)
      have h7 := (hR.train i hi).leg e (by omega)
      show 0 ≤ (P i).s e + ((f i).leg e).run ∧ (P i).s e + ((f i).leg e).run ≤ 99999999
      omega
end Go.Proofs.YthnlkpifafklkaaGreatDoor

namespace Go.Proofs.YthnlkpifafklkaaGreatDoor
open Go.RowKit

theorem Tryz.infoStand : (Tryz.prog.info? 144).map (fun i => (i.zero, i.size, i.bytes)) = some (some (.agg #[.int .i64 0, .int .i64 0, .int .i64 0]), 3, 24) := by kernel_rfl

theorem stands_step {W wr w' : World} {v v' : Value} {t : TrainD} {r : RowD} {k : Nat} {B : Nat} (hB : Below B W wr) (hBs : B ≤ wr.heap.size) (h : wr.ownsRow B 144 3 v k (standCells (standsUpto t r k)))
    (ho : w'.ownsRow B 144 3 v' (k + 1) (standCells (standsUpto t r k) ++ [.int .i64 (cur t k), .int .i64 (fromOf t r k), .int .i64 (toOf t r k)])) (hg : wr.grownBy w' v.ownBlock) :
    w'.ownsRow B 144 3 v' (k + 1) (standCells (standsUpto t r (k + 1))) ∧ Below B W w' :=
  ⟨by simp only [standsUpto, standCells_app]; exact ho, hB.grown hg hBs (fun j hj => (h.lt j hj).1)⟩

set_option maxRecDepth 20000 in
set_option maxHeartbeats 4000000 in
theorem stands_any (t : TrainD) (r : RowD) (la : Option Addr) (lc : Nat) (sa : Option Addr) (sc : Nat) (w : World) (hR : RightT t) (hpos : 0 < t.nl) (hs : ∀ k, k < t.nl → 0 ≤ r.s k ∧ r.s k ≤ 1000000) (hsc : t.nl ≤ sc)
    (hL : IsLegs 0 w.heap.size w la t.nl t.leg) (hI : IsInts 0 w.heap.size w sa t.nl r.s) :
    Calls Tryz.prog 91 #[.agg #[.int .i64 t.frm, .int .i64 t.ready, .int .i64 t.due, .int .i64 t.weight, .slice la t.nl lc], .slice sa t.nl sc] w fun e w' => (∃ v, e = .returned v ∧ w'.ownsRow w.heap.size 144 3 v (t.nl + 1) (standCells (standsUpto t r (t.nl + 1)))) ∧ Below w.heap.size w w' := by
  obtain ⟨i0, hi, hz0, hz1, hz2⟩ := info_parts Tryz.infoStand
  have hnl := hR.nl
  have hA1 := b1 w (.cells #[.int .i64 t.frm, .int .i64 t.ready, .int .i64 t.due, .int .i64 t.weight, .slice la t.nl lc] 90)
  have hTb := Go.heap_alloc_new w (.cells #[.int .i64 t.frm, .int .i64 t.ready, .int .i64 t.due, .int .i64 t.weight, .slice la t.nl lc] 90)
  go_enter Tryz.func91, Tryz.ntmps91
  go_wp2
  refine nameW fun W hW => ?_
  rw [← hW] at hA1 hTb
  have e0 := cell_of_row W w.heap.size 0 _ _ _ hTb
  have e1 := cell_of_row W w.heap.size 1 _ _ _ hTb
  have e2 := cell_of_row W w.heap.size 2 _ _ _ hTb
  have e3 := cell_of_row W w.heap.size 3 _ _ _ hTb
  have e4 := cell_of_row W w.heap.size 4 _ _ _ hTb
  simp at e0 e1 e2 e3 e4
  clear hW hTb
  go_loopw [5, 6, 13] (fun v fr kk wr => ∃ (k : Nat), k ≤ t.nl ∧ kk = .int .i64 k ∧ fr = .int .i64 (fromOf t r k) ∧ wr.ownsRow W.heap.size 144 3 v k (standCells (standsUpto t r k)) ∧ Below W.heap.size W wr) (fun _ _ kk _ => t.nl - (intOf kk).toNat)
  case atStart => exact ⟨0, Nat.zero_le _, rfl, rfl, World.ownsRow_nil _ _ _ _, Below.refl _ _⟩
  case round =>
    obtain ⟨k, hk, rfl, rfl, hown, hB⟩ := hrel
    have hAw := Below.join hA1 (Nat.le_refl _) hB
    have d0 := cellLater hB e0
    have d1 := cellLater hB e1
    have d2 := cellLater hB e2
    have d3 := cellLater hB e3
    have d4 := cellLater hB e4
    have hL1 := hL.grow hAw
    have hszW := hB.size
    by_cases hlt : k < t.nl
    · have hk' : (k : Int) < (t.nl : Int) := by omega
      have hk0 : (0 : Int) ≤ (k : Int) := by omega
      have hkc : (k : Int) + 1 ≤ (sc : Int) := by omega
      have hn1 : (0 : Int) ≤ (k : Int) + 1 := by omega
      have hn2 : ((k : Int) + 1).toNat = k + 1 := by omega
      have hw1 : IntKind.i64.wrap ((k : Int) + 1) = (k : Int) + 1 := by rw [IntKind.wrap_i64]; omega
      have hn3 : ¬ ((k : Int) + 1 < 0) := by omega
      have hn4 : ¬ ((sc : Int) < (k : Int) + 1) := by omega
      have hto : toOf t r k = r.s k := by unfold toOf; rw [if_pos hlt]
      obtain ⟨bi, oi, rfl, _, hbi, q0⟩ := hI k hlt
      have hin1 : IsInts 0 w.heap.size w (some ⟨bi, oi, none⟩) (k + 1) r.s := fun j hj => hI j (by omega)
      have q1 := cellLater hAw q0
      have hcu := ahead_any t k la lc wr hk hnl hL1
      have hfr : fromOf t r (k + 1) = r.s k + (t.leg k).run := rfl
      rw [← hto] at q1
      have hto' : Hid _ := hto
      clear hto
      generalize hcv : cur t k = cv at hcu
      generalize htv : toOf t r k = tv at q1 hto'
      generalize hfv : fromOf t r k = fv at *
      have hcv' : Hid _ := hcv
      have htv' : Hid _ := htv
      have hfv' : Hid _ := hfv
      clear hcv htv hfv
      go_wp2_with (first | (go_at_call 97; refine hcu.mono ?_; rintro _ w3 ⟨rfl, hB3⟩; replace d0 := cellLater hB3 d0; replace d1 := cellLater hB3 d1; replace d2 := cellLater hB3 d2; replace d3 := cellLater hB3 d3; replace d4 := cellLater hB3 d4; clear hcu) | (at_builtin; refine wpList_append_own _ rfl _ _ 141 rfl W.heap.size 144 i0 _ 3 24 Tryz.underlying141 hi hz0 hz1 hz2 rfl (by decide) _ _ _ rfl ((ownsRow_later hown hB3).alloc _) ⟨w3.heap.size, 0, none⟩ 1 1 [.int .i64 cv, .int .i64 fv, .int .i64 tv] rfl rfl cells3_lie one3 (by unfold maxLen; omega) (by omega) (by have h2 := hB3.size; simp only [World.size_alloc]; omega) ?_))
      intro v' w6 hown' hgrow _
      have hR2 := stands_step (t := t) (r := r) (Below.join (Below.join hB (Nat.le_refl _) hB3) (Nat.le_refl _) (b1 w3 (.cells #[.int .i64 cv, .int .i64 fv, .int .i64 tv] 144))) (by have h2 := hB3.size; simp only [World.size_alloc]; omega) ((ownsRow_later hown hB3).alloc _) (by rw [hcv'.out, htv'.out, hfv'.out]; exact hown') hgrow
      obtain ⟨hown2, hB6⟩ := hR2
      have hAw6 := Below.join hA1 (Nat.le_refl _) hB6
      clear hown' hgrow hown d0 d1 d2 d3 d4 q1
      have d0 := cellLater hB6 e0
      have d1 := cellLater hB6 e1
      have d2 := cellLater hB6 e2
      have d3 := cellLater hB6 e3
      have d4 := cellLater hB6 e4
      have hEn := end_any t k la lc r.s (some ⟨bi, oi, none⟩) sc w6.drew hlt hR (hs k hlt).1 (hs k hlt).2 (hL.grow hAw6.drew) (hin1.grow hAw6.drew)
      go_wp2
      go_region_held3 (fun w' => w'.cell? ⟨w.heap.size, 0, none⟩ = some (.int .i64 t.frm) ∧ w'.cell? ⟨w.heap.size, 1, none⟩ = some (.int .i64 t.ready) ∧ w'.cell? ⟨w.heap.size, 2, none⟩ = some (.int .i64 t.due) ∧ w'.cell? ⟨w.heap.size, 3, none⟩ = some (.int .i64 t.weight) ∧ w'.cell? ⟨w.heap.size, 4, none⟩ = some (.slice la t.nl lc)) (first | go_keep | (go_split_ands; refine ⟨?_, ?_, ?_, ?_, ?_⟩ <;> exact cellLater hB7 (by assumption))) ((first | (go_at_call 93; refine hEn.mono ?_; rintro _ w7 ⟨rfl, hB7⟩)))
      go_wp2
      go_roundw
      case rel => exact ⟨k + 1, by omega, by go_num, by rw [hfr], ownsRow_later hown2 (Below.join (Below.refl _ _).drew (Nat.le_refl _) hB7), Below.join hB6.drew (Nat.le_refl _) hB7⟩
      case measure => simp [intOf]; omega
    · obtain rfl : k = t.nl := by omega
      have hto : toOf t r t.nl = fromOf t r t.nl := by unfold toOf; rw [if_neg (by omega)]
      have hcu := ahead_any t t.nl la lc wr (Nat.le_refl _) hnl hL1
      generalize hcv : cur t t.nl = cv at hcu
      generalize hfv : fromOf t r t.nl = fv at *
      have hcv' : Hid _ := hcv
      have hfv' : Hid _ := hfv
      have hto' : Hid _ := hto
      clear hcv hfv hto
      go_wp2_with (first | (go_at_call 97; refine hcu.mono ?_; rintro _ w3 ⟨rfl, hB3⟩; replace d0 := cellLater hB3 d0; clear hcu) | (at_builtin; refine wpList_append_own _ rfl _ _ 141 rfl W.heap.size 144 i0 _ 3 24 Tryz.underlying141 hi hz0 hz1 hz2 rfl (by decide) _ _ _ rfl ((ownsRow_later hown hB3).alloc _) ⟨w3.heap.size, 0, none⟩ 1 1 [.int .i64 cv, .int .i64 fv, .int .i64 fv] rfl rfl cells3_lie one3 (by unfold maxLen; omega) (by omega) (by have h2 := hB3.size; simp only [World.size_alloc]; omega) ?_))
      intro v' w6 hown' hgrow _
      have hR2 := stands_step (t := t) (r := r) (Below.join (Below.join hB (Nat.le_refl _) hB3) (Nat.le_refl _) (b1 w3 (.cells #[.int .i64 cv, .int .i64 fv, .int .i64 fv] 144))) (by have h2 := hB3.size; simp only [World.size_alloc]; omega) ((ownsRow_later hown hB3).alloc _) (by rw [hcv'.out, hto'.out, hfv'.out]; exact hown') hgrow
      obtain ⟨hown2, hB6⟩ := hR2
      go_wp2
      go_ret
      exact ⟨⟨_, rfl, Joins.ownsRow_le hown2 hA1.size⟩, Below.join hA1 (Nat.le_refl _) hB6⟩

theorem stand_cells {W : World} {b0 g cap : Nat} {t : TrainD} {r : RowD} {n : Nat} (h : W.ownsRow b0 144 3 (.slice (some ⟨g, 0, none⟩) n cap) n (standCells (standsUpto t r n))) {k : Nat} (hk : k < n) :
    W.cell? ⟨g, k * 3, none⟩ = some (.int .i64 (cur t k)) ∧ W.cell? ⟨g, k * 3 + 1, none⟩ = some (.int .i64 (fromOf t r k)) ∧ W.cell? ⟨g, k * 3 + 2, none⟩ = some (.int .i64 (toOf t r k)) := by
  obtain ⟨h0, h1, h2⟩ := standCells_at _ k _ (standsUpto_at t r n k hk)
  exact ⟨(h.cellAt _ (by omega)).trans h0, (h.cellAt _ (by omega)).trans h1, (h.cellAt _ (by omega)).trans h2⟩
end Go.Proofs.YthnlkpifafklkaaGreatDoor

namespace Go.Proofs.YthnlkpifafklkaaGreatDoor
open Go.RowKit

set_option maxRecDepth 20000 in
set_option maxHeartbeats 8000000 in
theorem course_any (t : TrainD) (r : RowD) (la : Option Addr) (lc : Nat) (sa : Option Addr) (sc : Nat) (w : World) (hR : RightT t) (hS : SmallS t r) (hs : ∀ k, k < t.nl → 0 ≤ r.s k ∧ r.s k ≤ 1000000) (hsc : t.nl ≤ sc)
    (hL : IsLegs 0 w.heap.size w la t.nl t.leg) (hI : IsInts 0 w.heap.size w sa t.nl r.s) (hTn : TenIs w) :
    Calls Tryz.prog 56 #[.agg #[.int .i64 t.frm, .int .i64 t.ready, .int .i64 t.due, .int .i64 t.weight, .slice la t.nl lc], .slice sa t.nl sc] w fun e w' => e = .returned (.string (ba (courseT t r))) ∧ Below w.heap.size w w' := by
  have hnl := hS.nl
  have hpos := hS.pos
  have hA1 := b1 w (.cells #[.int .i64 t.frm, .int .i64 t.ready, .int .i64 t.due, .int .i64 t.weight, .slice la t.nl lc] 90)
  have hst := stands_any t r la lc sa sc _ hR hpos hs hsc (hL.grow hA1) (hI.grow hA1)
  have hTb := Go.heap_alloc_new w (.cells #[.int .i64 t.frm, .int .i64 t.ready, .int .i64 t.due, .int .i64 t.weight, .slice la t.nl lc] 90)
  have z0 := cell_of_row _ w.heap.size 0 _ _ _ hTb
  have z1 := cell_of_row _ w.heap.size 1 _ _ _ hTb
  have z2 := cell_of_row _ w.heap.size 2 _ _ _ hTb
  have z3 := cell_of_row _ w.heap.size 3 _ _ _ hTb
  have z4 := cell_of_row _ w.heap.size 4 _ _ _ hTb
  simp only [List.getElem?_toArray, List.getElem?_cons_zero, List.getElem?_cons_succ] at z0 z1 z2 z3 z4
  clear hTb
  go_enter Tryz.func56, Tryz.ntmps56
  go_wp2_with (go_at_call 91; refine hst.mono ?_; rintro _ w2 ⟨⟨v, rfl, hown⟩, hB2⟩; obtain ⟨gS, cS, rfl⟩ := Joins.ownsRow_form hown (by omega); have hBw := Below.join hA1 (Nat.le_refl _) hB2; replace z0 := cellLater hB2 z0; replace z1 := cellLater hB2 z1; replace z2 := cellLater hB2 z2; replace z3 := cellLater hB2 z3; replace z4 := cellLater hB2 z4)
  clear hst hB2 hA1
  go_loopw [5, 13] (fun oo kk wr => ∃ (k : Nat), k ≤ t.nl + 1 ∧ kk = .int .i64 k ∧ oo = .string (ba (standsT t r [] k)) ∧ Below w2.heap.size w2 wr) (fun _ kk _ => t.nl + 1 - (intOf kk).toNat)
  case atStart => exact ⟨0, Nat.zero_le _, rfl, rfl, Below.refl _ _⟩
  case round =>
    obtain ⟨k, hk, rfl, rfl, hB⟩ := hrel
    obtain ⟨so, hso⟩ : ∃ so, so = ba (standsT t r [] k) := ⟨_, rfl⟩
    rw [← hso]
    have hso' : Hid _ := hso
    clear hso
    have hlk := standsT_len (b := []) hS k hk
    simp only [List.length_nil] at hlk
    by_cases hlt : k < t.nl + 1
    · have hk' : (k : Int) < ((t.nl + 1 : Nat) : Int) := by omega
      have hk0 : (0 : Int) ≤ (k : Int) := by omega
      obtain ⟨n00, n01⟩ := hS.st k (by omega)
      obtain ⟨n10, n11⟩ := hS.to k (by omega)
      obtain ⟨g0, g1, g2⟩ := stand_cells (ownsRow_later hown hB) hlt
      have hT2 := (hTn.later hBw).later hB
      have hsn : Hid (standsT t r [] (k + 1) = standsT t r [] k ++ standT (cur t k) (toOf t r k)) := rfl
      generalize cur t k = cv at n00 n01 g0 hsn
      generalize toOf t r k = tv at n10 n11 g2 hsn
      generalize fromOf t r k = fv at g1
      have hi0 := itoa_len n00 n01
      have hi1 := itoa_len n10 n11
      obtain ⟨r1, e1, f1⟩ := cat ⟨#[32]⟩ (ba (Lib.itoa cv)) [32] _ rfl rfl (by simp; omega)
      obtain ⟨r2, e2, f2⟩ := cat r1 ⟨#[64]⟩ _ [64] f1.out rfl (by simp; omega)
      obtain ⟨r3, e3, f3⟩ := cat r2 (ba (Lib.itoa tv)) _ _ f2.out rfl (by simp; omega)
      obtain ⟨r4, e4, f4⟩ := cat so r3 _ _ hso'.out f3.out (by simp; omega)
      have hr4 : Hid (r4 = ba (standsT t r [] k ++ standT cv tv)) := f4
      clear f1 f2 f3 f4 hi0 hi1
      have hA1 := b1 wr (.cells #[.int .i64 cv, .int .i64 fv, .int .i64 tv] 144)
      have hTb := Go.heap_alloc_new wr (.cells #[.int .i64 cv, .int .i64 fv, .int .i64 tv] 144)
      go_wp2
      refine nameV fun V hV => ?_
      rw [← hV] at hA1 hTb
      clear hV g0 g1 g2
      have c0 := cell_of_row V wr.heap.size 0 _ _ _ hTb
      have c2 := cell_of_row V wr.heap.size 2 _ _ _ hTb
      simp at c0 c2
      have hVV : Below V.heap.size V V.drew := (Below.refl _ _).drew
      replace hT2 := (hT2.later hA1).later hVV
      clear hTb
      go_region_held3 (fun w' => w'.cell? ⟨wr.heap.size, 0, none⟩ = some (.int .i64 cv) ∧ w'.cell? ⟨wr.heap.size, 2, none⟩ = some (.int .i64 tv)) (first | go_keep | (go_split_ands; refine ⟨?_, ?_⟩ <;> exact cellLater hB6 (by assumption))) ((go_at_call 92; refine (itoaI_any _ _ (by assumption) (by assumption) hT2).mono ?_; rintro _ w6 ⟨rfl, hB6⟩; replace hT2 := hT2.later hB6; replace hVV := Below.join hVV (Nat.le_refl _) hB6))
      go_wp2
      go_roundw
      case rel => exact ⟨k + 1, by omega, by go_num, by rw [hr4.out, hsn.out], Below.join (Below.join hB (Nat.le_refl _) hA1) (Nat.le_refl _) hVV⟩
      case measure => simp [intOf]; omega
    · obtain rfl : k = t.nl + 1 := by omega
      have hBe := Below.join hBw (Nat.le_refl _) hB
      have d0 := cellLater hB z0
      have d1 := cellLater hB z1
      have d2 := cellLater hB z2
      have d3 := cellLater hB z3
      have d4 := cellLater hB z4
      have hT2 := hTn.later hBe
      have hfr : fromOf t r t.nl = r.s (t.nl - 1) + (t.leg (t.nl - 1)).run := by
        obtain ⟨e, he⟩ : ∃ e, t.nl = e + 1 := ⟨t.nl - 1, by omega⟩
        rw [he]; rfl
      have hEn : Calls Tryz.prog 93 #[.agg #[.int .i64 t.frm, .int .i64 t.ready, .int .i64 t.due, .int .i64 t.weight, .slice la t.nl lc], .slice sa t.nl sc] wr.drew fun x w' => x = .returned (.int .i64 (fromOf t r t.nl)) ∧ Below wr.drew.heap.size wr.drew w' := by
        have hs1 := hs (t.nl - 1) (by omega)
        have hin1 : IsInts 0 wr.drew.heap.size wr.drew sa (t.nl - 1 + 1) r.s := fun j hj => (hI.grow hBe.drew) j (by omega)
        have h := end_any t (t.nl - 1) la lc r.s sa sc wr.drew (by omega) hR hs1.1 hs1.2 (hL.grow hBe.drew) hin1
        rw [Nat.sub_add_cancel hpos] at h
        rw [hfr]
        exact h
      obtain ⟨e0, e1⟩ := hS.to t.nl (Nat.le_refl _)
      rw [toOf_end] at e0 e1
      have hct : Hid (courseT t r = standsT t r [] (t.nl + 1) ++ lateT t (fromOf t r t.nl)) := rfl
      have hdu0 := hS.d0
      have hdu1 := hS.d1
      clear hfr
      generalize fromOf t r t.nl = ev at hEn e0 e1 hct
      have hBd : Below wr.heap.size wr wr.drew := (Below.refl _ _).drew
      clear hB
      by_cases hlate : t.due < ev
      · have hlt' : Hid (lateT t ev = [32, 108, 97, 116, 101, 32] ++ Lib.itoa (ev - t.due)) := by unfold Hid lateT; rw [if_pos hlate]
        have n0 : 0 ≤ ev - t.due := by omega
        have n1 : ev - t.due ≤ 99999999 := by omega
        have hpp : 0 < ev - t.due := by omega
        have hi0 := itoa_len n0 n1
        obtain ⟨r1, e1', f1⟩ := cat ⟨#[32, 108, 97, 116, 101, 32]⟩ (ba (Lib.itoa (ev - t.due))) [32, 108, 97, 116, 101, 32] _ rfl rfl (by simp; omega)
        obtain ⟨r2, e2', f2⟩ := cat so r1 _ _ hso'.out f1.out (by simp; omega)
        have hr2 : Hid (r2 = ba (courseT t r)) := by unfold Hid; rw [f2.out, hct.out, hlt'.out]
        clear f1 f2 hi0
        have hws : IntKind.i64.wrap (ev - t.due) = ev - t.due := by rw [IntKind.wrap_i64]; omega
        go_wp2
        go_region_held3 (fun w' => w'.cell? ⟨w.heap.size, 0, none⟩ = some (.int .i64 t.frm) ∧ w'.cell? ⟨w.heap.size, 1, none⟩ = some (.int .i64 t.ready) ∧ w'.cell? ⟨w.heap.size, 2, none⟩ = some (.int .i64 t.due) ∧ w'.cell? ⟨w.heap.size, 3, none⟩ = some (.int .i64 t.weight) ∧ w'.cell? ⟨w.heap.size, 4, none⟩ = some (.slice la t.nl lc)) (first | go_keep | (go_split_ands; refine ⟨?_, ?_, ?_, ?_, ?_⟩ <;> exact cellLater hB6 (by assumption))) ((go_at_call 93; refine hEn.mono ?_; rintro _ w6 ⟨rfl, hB6⟩))
        have hB7 := Below.join hBd (Nat.le_refl _) hB6
        have hdec := itoaI_any (ev - t.due) w6 n0 n1 (hT2.later hB7)
        go_wp2_with (go_at_call 92; refine hdec.mono ?_; rintro _ w8 ⟨rfl, hB8⟩)
        go_ret
        exact ⟨by rw [← hr2.out]; rfl, Below.join (Below.join hBe (Nat.le_refl _) hB7) (Nat.le_refl _) hB8⟩
      · have hlt' : Hid (lateT t ev = []) := by unfold Hid lateT; rw [if_neg hlate]
        have hpp : ¬ (0 < ev - t.due) := by omega
        have hws : IntKind.i64.wrap (ev - t.due) = ev - t.due := by rw [IntKind.wrap_i64]; omega
        go_wp2
        go_region_held3 (fun w' => w'.cell? ⟨w.heap.size, 0, none⟩ = some (.int .i64 t.frm) ∧ w'.cell? ⟨w.heap.size, 1, none⟩ = some (.int .i64 t.ready) ∧ w'.cell? ⟨w.heap.size, 2, none⟩ = some (.int .i64 t.due) ∧ w'.cell? ⟨w.heap.size, 3, none⟩ = some (.int .i64 t.weight) ∧ w'.cell? ⟨w.heap.size, 4, none⟩ = some (.slice la t.nl lc)) (first | go_keep | (go_split_ands; refine ⟨?_, ?_, ?_, ?_, ?_⟩ <;> exact cellLater hB6 (by assumption))) ((go_at_call 93; refine hEn.mono ?_; rintro _ w6 ⟨rfl, hB6⟩))
        have hB7 := Below.join hBd (Nat.le_refl _) hB6
        go_wp2
        go_ret
        exact ⟨by rw [hct.out, hlt'.out, List.append_nil, ← hso'.out]; rfl, Below.join hBe (Nat.le_refl _) hB7⟩
end Go.Proofs.YthnlkpifafklkaaGreatDoor
