/-
  The model's search: a look at what is left, one more.
  The model's search: all of it, and spec.Solve.
  A drawn line, written and read: plain; a best plan, as it lies.
  The draws of the model: a box of choices.
  The draws of the model: a number below another.
  The draws of the model: a line, a train's legs.
  The draws of the model: a line, its trains.
-/
import Derived.Test.YtnjaegeapcijpaaGreatDoorGG
import Derived.Test.YtnjaegeapcijpaaGreatDoorSpecK
import Derived.Test.YtnjaegeapcijpaaGreatDoorGC
import Derived.Test.YtnjaegeapcijpaaGreatDoorGE
import Derived.Test.YtnjaegeapcijpaaGreatDoorGA
import Derived.Laws.Bits64b
import Derived.Deep.RegionHeld3
import Derived.Maps.AppendAt
namespace Go.Proofs.YtnjaegeapcijpaaGreatDoor
open Go.RowKit

/-- the look, where so many legs are left -/
def LookAt (bs : Nat) (a : Option Addr) (len cap : Nat) (g : Nat → Int) (gap : Int) (a' : Option Addr) (np cap' : Nat) (f : Nat → TrainD) (left : Nat) : Prop :=
  ∀ (B0 b gR : Nat) (c : Option Addr) (nc : Nat) (v : Nat → Value) (P : Nat → RowD) (last : Int) (A : Acc) (cA : Option Addr) (nA ncA : Nat) (w : World) (k : Nat), k + left = legSum f np → bs < B0 → LP B0 w b gR a len cap gap a' np cap' c nc v P last → RunOk len np g f gap ⟨0, 0, P, last⟩ k → IsInts 0 bs w a len g → IsTrains 0 bs w a' np f → SolS w bs a len cap gap a' np cap' f A cA nA ncA →
    Calls Tryz.prog 47 #[.pointer (some ⟨bs, 0, none⟩), .pointer (some ⟨b, 0, none⟩), .int .i64 (left : Nat)] w (LookPost bs a len cap gap a' np cap' f (lookP np g f gap left P last A) w)
set_option maxRecDepth 20000 in
set_option maxHeartbeats 8000000 in
theorem look_step (bs : Nat) (a : Option Addr) (len cap : Nat) (g : Nat → Int) (gap : Int) (a' : Option Addr) (np cap' : Nat) (f : Nat → TrainD) (hR : RightL len np f) (hG : RightG len g gap np f) (left : Nat) (IH : LookAt bs a len cap g gap a' np cap' f left) : LookAt bs a len cap g gap a' np cap' f (left + 1) := by
  intro B0 b gR c nc v P last A cA nA ncA w k hkl hbs hL hrun hI hT hS
  have hlb := ltCell hS.c0
  have hpart : PartP np f P last := hrun.part
  have hlast : last ≤ 110000 + 20001 * (k : Int) := hrun.lb
  have h10 : ∀ j, j < np → (P j).n ≤ 10 := fun j hj => Nat.le_trans (hpart.le j hj) (hR.train j hj).nl
  have hnp := hR.tr
  have hlegs := hG.legs
  have hk10 : k < 10 := by omega
  have hFl := l3floor_any b a len cap gap a' np cap' f c nc P last w hR hpart hL.l2 (hT.mono (Nat.le_refl _) (Nat.le_of_lt hlb)) (hL.rows h10)
  obtain ⟨fl, hfl⟩ : ∃ fl, fl = floorP f P last np := ⟨_, rfl⟩
  rw [← hfl] at hFl
  obtain ⟨h, hh⟩ : ∃ h : Nat → Acc → Acc, h = fun i B => if (nextOf np g f P gap last i).1 = 0 then lookP np g f gap left (moreP P i (nextOf np g f P gap last i).2) (nextOf np g f P gap last i).2 B else B := ⟨_, rfl⟩
  have hlook : lookP np g f gap (left + 1) P last A = if A.met = true ∧ A.cost < fl then A else foldN h np A := by rw [hfl, hh]; rfl
  have hlook' : Hid _ := hlook
  have hh' : Hid _ := hh
  clear hlook hfl hh
  obtain ⟨L, hLd⟩ : ∃ L : Int, L = ((left + 1 : Nat) : Int) := ⟨_, rfl⟩
  rw [← hLd]
  have hz : (L == 0) = false := by simp; omega
  have hwl : IntKind.i64.wrap (L - 1) = (left : Int) := by rw [IntKind.wrap_i64]; omega
  clear hLd
  generalize lookP np g f gap (left + 1) P last A = R at hlook'
  go_enter Tryz.func47, Tryz.ntmps47
  go_wp2_with (go_at_call 78; fail)
  refine hFl.mono ?_
  rintro _ w1 ⟨rfl, hB1⟩
  have hs1 := hB1.size
  have hS1 := hS.later hB1
  have hL1 := hL.later hB1
  have hI1 : IsInts 0 bs w1 a len g := hI.below hB1 (by omega)
  have hT1 : IsTrains 0 bs w1 a' np f := hT.below hB1 (by omega)
  have hM1 : Mid bs (bs + 1) w w1 := Mid.ofBelow hB1 (by omega)
  have q2 := hS1.c2
  have q3 := hS1.c3
  have q4 := hS1.c4
  clear hFl
  by_cases hcut : A.met = true ∧ A.cost < fl
  · have hres : Hid (R = A) := by unfold Hid; rw [hlook'.out, if_pos hcut]
    obtain ⟨hmet, hc⟩ := hcut
    rw [hmet] at q3
    go_wp2
    exact bodyPost_ret (v := .tuple #[]) (by simp [results, Tryz.results47, go_sem]) rfl ⟨rfl, hM1, _, _, _, by rw [hres.out]; exact hS1⟩
  · have hres : Hid (R = foldN h np A) := by unfold Hid; rw [hlook'.out, if_neg hcut]
    obtain ⟨m, hm⟩ : ∃ m, m = A.met := ⟨_, rfl⟩
    rw [← hm] at q3
    have hd : m = true → fl ≤ A.cost := fun e => by
      exact Int.not_lt.1 (fun h => hcut ⟨hm.symm.trans e, h⟩)
    clear hcut hm
    cases m <;> (
      (first | (replace hd := hd rfl) | (clear hd))
      go_wp2
      go_loopw [69] (fun kk wr => ∃ (i : Nat) (cA : Option Addr) (nA ncA : Nat), i ≤ np ∧ kk = .int .i64 i ∧ Mid bs (bs + 1) w1 wr ∧ SolS wr bs a len cap gap a' np cap' f (foldN h i A) cA nA ncA) (fun kk _ => np - (intOf kk).toNat)
      case atStart => exact ⟨0, cA, nA, ncA, Nat.zero_le _, rfl, Mid.refl _ _ _, hS1⟩
      case round =>
        obtain ⟨i, cA', nA', ncA', hi, rfl, hMr, hSr⟩ := hrel
        have hwr := hMr.below.size
        have hLr := hL1.mid hMr hbs
        have hIr : IsInts 0 bs wr a len g := hI1.below hMr.below (Nat.le_refl _)
        have hTr : IsTrains 0 bs wr a' np f := hT1.below hMr.below (Nat.le_refl _)
        clear q2 q3 q4
        by_cases hlt : i < np
        · have hi' : (i : Int) < (np : Int) := by omega
          have hi0 : (0 : Int) ≤ (i : Int) := by omega
          have hcp := copy_any B0 b gR a len cap gap a' np cap' c nc v P last wr hnp h10 hLr
          go_wp2_with (go_at_call 80; fail)
          refine hcp.mono ?_
          rintro _ w2 ⟨⟨gR', c', nc', v', rfl, hL2⟩, hB2⟩
          clear hcp
          have hs2 := hB2.size
          have hI2 : IsInts 0 bs w2 a len g := hIr.below hB2 (by omega)
          have hT2 : IsTrains 0 bs w2 a' np f := hTr.below hB2 (by omega)
          have hI2' : IsInts 0 w2.heap.size w2 a len g := hI2.mono (Nat.le_refl _) (by omega)
          have hT2' : IsTrains 0 w2.heap.size w2 a' np f := hT2.mono (Nat.le_refl _) (by omega)
          have hskip : ∀ cc : Int, cc ≠ 0 → nextOf np g f P gap last i = (cc, 0) → foldN h (i + 1) A = foldN h i A := fun cc h0 h1 => by
            show h i (foldN h i A) = _
            rw [hh'.out]
            show (if (nextOf np g f P gap last i).1 = 0 then _ else _) = _
            rw [h1, if_neg h0]
          have hskip' : Hid _ := hskip
          clear hskip
          by_cases hnn : (P i).n = (f i).nl
          · have hnx := next_two wr.heap.size a len cap gap a' np cap' f c' nc' P last i w2 hR hlt hnn hL2.l2 hT2' (hL2.rows h10)
            have hst : Hid (foldN h (i + 1) A = foldN h i A) := hskip'.out 2 (by decide) (nextOf_two hnn)
            go_wp2_with (go_at_call 81; fail)
            refine hnx.mono ?_
            rintro _ w3 ⟨rfl, hB3⟩
            have hB := Below.join hB2 (Nat.le_refl _) hB3
            clear hnx
            go_wp2
            go_roundw
            case rel => exact ⟨i + 1, _, _, _, by omega, by go_num, hMr.trans (Mid.ofBelow hB (by omega)), by rw [hst.out]; exact hSr.later hB⟩
            case measure => simp [intOf]; omega
          · have hnlt : (P i).n < (f i).nl := by have := hpart.le i hlt; omega
            have hnx := next_main wr.heap.size wr.heap.size gR' a len cap g gap a' np cap' f c' nc' v' P last i w2 hR hG hpart hlt hnlt (by omega) hL2 hI2' hT2'
            go_wp2_with (go_at_call 81; fail)
            refine hnx.mono ?_
            rintro _ w3 (⟨hall, rfl, hB3⟩ | ⟨t, v3, hfst, rfl, hB3, hL3⟩)
            · have hst : Hid (foldN h (i + 1) A = foldN h i A) := hskip'.out 3 (by decide) (nextOf_three hnn hall)
              have hB := Below.join hB2 (Nat.le_refl _) hB3
              clear hnx hall
              go_wp2
              go_roundw
              case rel => exact ⟨i + 1, _, _, _, by omega, by go_num, hMr.trans (Mid.ofBelow hB (by omega)), by rw [hst.out]; exact hSr.later hB⟩
              case measure => simp [intOf]; omega
            · have hB := hB2.trans hB3
              have hrun3 := (runOk_step hR hG hrun rfl hlt hnlt hfst hk10).2
              have hS3 := hSr.later hB
              have hlk := IH wr.heap.size wr.heap.size gR' c' nc' v3 (moreP P i t) t (foldN h i A) cA' nA' ncA' w3 (k + 1) (by omega) (by omega) hL3 hrun3 (hI2.below hB3 (by omega)) (hT2.below hB3 (by omega)) hS3
              have hst : Hid (foldN h (i + 1) A = lookP np g f gap left (moreP P i t) t (foldN h i A)) := by
                unfold Hid
                show h i (foldN h i A) = _
                rw [hh'.out]
                show (if (nextOf np g f P gap last i).1 = 0 then _ else _) = _
                rw [nextOf_ok hnn hfst, if_pos rfl]
              clear hnx hfst hskip'
              go_wp2_with (go_at_call 47; fail)
              refine hlk.mono ?_
              rintro _ w4 ⟨rfl, hM4, cA4, nA4, ncA4, hS4⟩
              clear hlk
              go_wp2
              go_roundw
              case rel => exact ⟨i + 1, _, _, _, by omega, by go_num, (hMr.trans (Mid.ofBelow hB (by omega))).trans hM4, by rw [hst.out]; exact hS4⟩
              case measure => simp [intOf]; omega
        · obtain rfl : i = np := by omega
          go_wp2
          exact bodyPost_ret (v := .tuple #[]) (by simp [results, Tryz.results47, go_sem]) rfl ⟨rfl, hM1.trans hMr, _, _, _, by rw [hres.out]; exact hSr⟩)
end Go.Proofs.YtnjaegeapcijpaaGreatDoor

namespace Go.Proofs.YtnjaegeapcijpaaGreatDoor
open Go.RowKit

theorem full_rows {f : Nat → TrainD} {P : Nat → RowD} : ∀ (n : Nat), (∀ j, j < n → (P j).n ≤ (f j).nl) → rowSumQ P n ≤ legSum f n ∧ (rowSumQ P n = legSum f n → ∀ j, j < n → (P j).n = (f j).nl)
  | 0, _ => ⟨Nat.le_refl _, fun _ j hj => absurd hj (Nat.not_lt_zero j)⟩
  | n + 1, h => by
    obtain ⟨h1, h2⟩ := full_rows n (fun j hj => h j (by omega))
    have hn := h n (by omega)
    simp only [rowSumQ, legSum]
    refine ⟨by omega, fun e j hj => ?_⟩
    rcases Nat.lt_succ_iff_lt_or_eq.1 hj with hj | rfl
    · exact h2 (by omega) j hj
    · omega
theorem look_all (bs : Nat) (a : Option Addr) (len cap : Nat) (g : Nat → Int) (gap : Int) (a' : Option Addr) (np cap' : Nat) (f : Nat → TrainD) (hR : RightL len np f) (hG : RightG len g gap np f) : ∀ left, LookAt bs a len cap g gap a' np cap' f left
  | 0 => fun B0 b gR c nc v P last A cA nA ncA w k hkl hbs hL hrun _ hT hS => by
    have hsum : rowSumQ P np = k := hrun.sum
    exact look_zero bs a len cap g gap a' np cap' f hR B0 b gR c nc v P last A cA nA ncA w hbs hL hrun.part ((full_rows (P := P) np hrun.part.le).2 (hsum.trans ((Nat.add_zero k).symm.trans hkl))) hT hS
  | left + 1 => look_step bs a len cap g gap a' np cap' f hR hG left (look_all bs a len cap g gap a' np cap' f hR hG left)
def acc0 : Acc := ⟨false, 0, fun _ => ⟨0, fun _ => 0⟩⟩
/-- the best of all orders, as the model has it -/
noncomputable def solP (np : Nat) (g : Nat → Int) (f : Nat → TrainD) (gap : Int) : Acc := lookP np g f gap (legSum f np) (fun _ => ⟨0, fun _ => 0⟩) 0 acc0
/-- what a Solve answers -/
def SolPost (w : World) (np : Nat) (f : Nat → TrainD) (A : Acc) (e : Ending) (w' : World) : Prop :=
  ((A.met = true ∧ ∃ cA ncA, e = .returned (.agg #[.bool true, .int .i64 A.cost, .slice cA np ncA]) ∧ OwnP w.heap.size w' cA np A.plan ∧ ∀ j, j < np → (A.plan j).n = (f j).nl) ∨ (A.met = false ∧ e = .returned (.agg #[.bool false, .int .i64 0, .slice none 0 0]))) ∧ Below w.heap.size w w'
theorem boxB (w : World) (a : Option Addr) (len cap : Nat) (gap : Int) (a' : Option Addr) (np cap' : Nat) (t t' : TypeId) :
    (((w.alloc (.cells #[.slice a len cap, .int .i64 gap, .slice a' np cap'] t)).alloc (.cells #[.bool false, .int .i64 0, .slice none 0 0] t')).cell? ⟨w.heap.size, 0, none⟩ = some (.slice a len cap) ∧ ((w.alloc (.cells #[.slice a len cap, .int .i64 gap, .slice a' np cap'] t)).alloc (.cells #[.bool false, .int .i64 0, .slice none 0 0] t')).cell? ⟨w.heap.size, 1, none⟩ = some (.int .i64 gap) ∧
    ((w.alloc (.cells #[.slice a len cap, .int .i64 gap, .slice a' np cap'] t)).alloc (.cells #[.bool false, .int .i64 0, .slice none 0 0] t')).cell? ⟨w.heap.size, 2, none⟩ = some (.slice a' np cap')) ∧ Room (w.heap.size + 1) 3 ((w.alloc (.cells #[.slice a len cap, .int .i64 gap, .slice a' np cap'] t)).alloc (.cells #[.bool false, .int .i64 0, .slice none 0 0] t')) := by
  obtain ⟨n0, n1, n2⟩ := new3 w (.slice a len cap) (.int .i64 gap) (.slice a' np cap') t
  refine ⟨⟨cellLater (b1 _ _) n0, cellLater (b1 _ _) n1, cellLater (b1 _ _) n2⟩, ?_⟩
  have h := Room.lit (w.alloc (.cells #[.slice a len cap, .int .i64 gap, .slice a' np cap'] t)) #[.bool false, .int .i64 0, .slice none 0 0] t' 3 (Nat.le_refl _)
  rwa [World.size_alloc] at h
theorem sol_new (w : World) (a : Option Addr) (len cap : Nat) (gap : Int) (a' : Option Addr) (np cap' : Nat) (f : Nat → TrainD) (t : TypeId) :
    SolS (w.alloc (.cells #[.slice a len cap, .int .i64 gap, .slice a' np cap', .bool false, .int .i64 0, .slice none 0 0] t)) w.heap.size a len cap gap a' np cap' f acc0 none 0 0 := by
  refine ⟨by simp, by simp, by simp, by simp [acc0], by simp [acc0], by simp, ?_, ?_, ?_, fun h => absurd h (by simp [acc0])⟩ <;> rw [World.frozen?_alloc_at _ _ _ _ (by simp)]
set_option maxRecDepth 20000 in
set_option maxHeartbeats 8000000 in
theorem specSolve_yes (a : Option Addr) (len cap : Nat) (g : Nat → Int) (gap : Int) (a' : Option Addr) (np cap' : Nat) (f : Nat → TrainD) (w : World) (hl : len ≤ 1048576) (hl' : np ≤ 1048576) (hml : ∀ j, j < np → (f j).nl ≤ 1048576)
    (hI : IsInts 0 w.heap.size w a len g) (hT : IsTrains 0 w.heap.size w a' np f) (hF : Hid (faultOf len g gap np f = (0, 0))) :
    Calls Tryz.prog 14 #[.agg #[.slice a len cap, .int .i64 gap, .slice a' np cap']] w (SolPost w np f (solP np g f gap)) := by
  have hR := rightL_of hF
  have hG := rightG_of hF
  have htr := hR.tr
  have hN := b2 w (.cells #[.slice a len cap, .int .i64 gap, .slice a' np cap'] 26) (.cells #[.bool false, .int .i64 0, .slice none 0 0] 46)
  obtain ⟨⟨y0, y1, y2⟩, hRm⟩ := boxB w a len cap gap a' np cap' 26 46
  have hok := l1ok_yes a len cap g gap a' np cap' f _ hl hl' hml (hI.grow hN) (hT.grow hN) hF
  have lR : w.heap.size + 1 < ((w.alloc (.cells #[.slice a len cap, .int .i64 gap, .slice a' np cap'] 26)).alloc (.cells #[.bool false, .int .i64 0, .slice none 0 0] 46)).heap.size := by simp
  go_enter Tryz.func14, Tryz.ntmps14
  go_wp2_with (go_at_call 29; fail)
  refine hok.mono ?_
  rintro _ w2 ⟨rfl, hB2⟩
  have hBw := Below.join hN (Nat.le_refl _) hB2
  replace y0 := cellLater hB2 y0
  replace y1 := cellLater hB2 y1
  replace y2 := cellLater hB2 y2
  replace hRm := hRm.below hB2 lR
  have lR2 := Nat.lt_of_lt_of_le lR hB2.size
  clear hok hB2 hN lR
  go_wp2
  have hS3 := sol_new w2 a len cap gap a' np cap' f 98
  have hB3 := b1 w2 (.cells #[.slice a len cap, .int .i64 gap, .slice a' np cap', .bool false, .int .i64 0, .slice none 0 0] 98)
  have hs3 : (w2.alloc (.cells #[.slice a len cap, .int .i64 gap, .slice a' np cap', .bool false, .int .i64 0, .slice none 0 0] 98)).heap.size = w2.heap.size + 1 := World.size_alloc ..
  have lt3 := Nat.lt_of_lt_of_eq (Nat.lt_succ_self w2.heap.size) hs3.symm
  clear hs3
  generalize w2.alloc (.cells #[.slice a len cap, .int .i64 gap, .slice a' np cap', .bool false, .int .i64 0, .slice none 0 0] 98) = W3 at *
  have hBw3 := Below.join hBw (Nat.le_refl _) hB3
  have x0 := cellLater hB3 y0
  have x1 := cellLater hB3 y1
  have x2 := cellLater hB3 y2
  have hD : Below W3.heap.size W3 W3.drew := (Below.refl _ _).drew
  have hnew : Calls Tryz.prog 48 #[.agg #[.slice a len cap, .int .i64 gap, .slice a' np cap']] W3.drew fun e w' => (∃ gR c nc, e = .returned (.pointer (some ⟨W3.heap.size + 1, 0, none⟩)) ∧ LP W3.heap.size w' (W3.heap.size + 1) gR a len cap gap a' np cap' c nc (fun _ => .slice none 0 0) (fun _ => ⟨0, fun _ => 0⟩) 0) ∧ Below W3.drew.heap.size W3.drew w' := l2new_any a len cap gap a' np cap' W3.drew htr
  have hleg : ∀ W, Below W3.heap.size W3 W → Calls Tryz.prog 49 #[.agg #[.slice a len cap, .int .i64 gap, .slice a' np cap']] W fun e w' => e = .returned (.int .i64 (legSum f np)) ∧ Below W.heap.size W w' := fun W hB => l1legs_any a len cap gap a' np cap' f W htr hml ((hT.grow hBw3).grow hB)
  have hlk : ∀ W gR c nc, Below W3.heap.size W3 W → LP W3.heap.size W (W3.heap.size + 1) gR a len cap gap a' np cap' c nc (fun _ => .slice none 0 0) (fun _ => ⟨0, fun _ => 0⟩) 0 → Calls Tryz.prog 47 #[.pointer (some ⟨w2.heap.size, 0, none⟩), .pointer (some ⟨W3.heap.size + 1, 0, none⟩), .int .i64 (legSum f np : Nat)] W (LookPost w2.heap.size a len cap gap a' np cap' f (solP np g f gap) W) := fun W gR c nc hB hL =>
    look_all w2.heap.size a len cap g gap a' np cap' f hR hG (legSum f np) W3.heap.size (W3.heap.size + 1) gR c nc _ _ 0 acc0 none 0 0 W 0 (Nat.zero_add _) (by omega) hL (runP_zero np g f gap (fun _ => 0) len) (((hI.below hBw (Nat.le_refl _)).mono (Nat.le_refl _) hBw.size).below (Below.join hB3 (Nat.le_refl _) hB) (Nat.le_refl _)) (((hT.below hBw (Nat.le_refl _)).mono (Nat.le_refl _) hBw.size).below (Below.join hB3 (Nat.le_refl _) hB) (Nat.le_refl _)) (hS3.later hB)
  have lM : w.heap.size < w2.heap.size := by omega
  generalize legSum f np = lg at hleg hlk
  refine wp_region_noPanic ?_
  refine wp_region_held_drew (S := fun w' => w'.cell? ⟨w.heap.size, 0, none⟩ = some (.slice a len cap) ∧ w'.cell? ⟨w.heap.size, 1, none⟩ = some (.int .i64 gap) ∧ w'.cell? ⟨w.heap.size, 2, none⟩ = some (.slice a' np cap')) (by kernel_rfl) ⟨x0, x1, x2⟩ (fun hHeld => ?_)
  refine wpAnyH_take (i := 0) (oi := { dst := some 11, op := Go.Op.move (Go.Operand.tmp 3), type := 96, pos := "l3_best.go:71", after := #[], guard := none }) (v := ?vv1_0) rfl (by kernel_rfl) (by kernel_rfl) (by kernel_rfl) (fun _ _ _ h => h) (Or.inl ⟨by rfl, ?hy1_0⟩) (by assumption) ?rest1_0
  case hy1_0 =>
    intro w hSw
    (try dsimp only at hSw)
    go_simp
    (try with_reducible rfl)
  simp only [Act.put, List.setIfInBounds_toArray, List.set_cons_zero, List.set_cons_succ]
  refine wpAnyH_take (i := 1) (oi := { dst := some 12, op := Go.Op.load 26 (Go.Operand.tmp 1), type := 26, pos := "l3_best.go:71", after := #[], guard := none }) (v := ?vv2_1) rfl (by kernel_rfl) (by kernel_rfl) (by kernel_rfl) (fun _ _ _ h => h) (Or.inl ⟨by rfl, ?hy2_1⟩) (by assumption) ?rest2_1
  case hy2_1 =>
    intro w hSw
    (try dsimp only at hSw)
    go_simp
    (try with_reducible rfl)
  simp only [Act.put, List.setIfInBounds_toArray, List.set_cons_zero, List.set_cons_succ]
  refine wpAnyH_take (i := 3) (oi := { dst := some 14, op := Go.Op.load 26 (Go.Operand.tmp 1), type := 26, pos := "l3_best.go:71", after := #[], guard := none }) (v := ?vv3_3) rfl (by kernel_rfl) (by kernel_rfl) (by kernel_rfl) (fun _ _ _ h => h) (Or.inl ⟨by rfl, ?hy3_3⟩) (by assumption) ?rest3_3
  case hy3_3 =>
    intro w hSw
    (try dsimp only at hSw)
    go_simp
    (try with_reducible rfl)
  simp only [Act.put, List.setIfInBounds_toArray, List.set_cons_zero, List.set_cons_succ]
  refine wpAnyH_ready (rs := [2]) (by kernel_rfl) (by simp) ?_
  refine AllReadyH.cons (o := { dst := some 13, op := Go.Op.call { callee := Go.Callee.value (Go.Operand.func 48), args := #[Go.Operand.tmp 12], argTypes := #[26] }, type := 100, pos := "l3_best.go:71", after := #[{ on := 1, ground := Go.Ground.data }], guard := none }) rfl (fun K hK => ?_) AllReadyH.nil
  go_simp
  go_at_call 48
  refine hnew.mono ?_
  rintro _ w5 ⟨⟨gR, c, nc, rfl, hLP⟩, hB5⟩
  have hB35 := Below.join hD (Nat.le_refl _) hB5
  go_wp2_with fail
  refine hK.out _ _ ⟨cellLater hB35 x0, cellLater hB35 x1, cellLater hB35 x2⟩ (fun hHeld => ?_)
  clear hK K
  (try simp only [Act.put, List.setIfInBounds_toArray, List.set_cons_zero, List.set_cons_succ])
  refine wpAnyH_ready (rs := [4]) (by kernel_rfl) (by simp) ?_
  refine AllReadyH.cons (o := { dst := some 15, op := Go.Op.call { callee := Go.Callee.value (Go.Operand.func 49), args := #[Go.Operand.tmp 14], argTypes := #[26] }, type := 3, pos := "l3_best.go:71", after := #[{ on := 3, ground := Go.Ground.data }, { on := 2, ground := Go.Ground.chain }], guard := none }) rfl (fun K hK => ?_) AllReadyH.nil
  go_simp
  go_at_call 49
  refine (hleg _ hB35).mono ?_
  rintro _ w6 ⟨rfl, hB6⟩
  have hLP6 := hLP.later hB6
  have hB36 := Below.join hB35 (Nat.le_refl _) hB6
  go_wp2_with fail
  refine hK.out _ _ ⟨cellLater hB36 x0, cellLater hB36 x1, cellLater hB36 x2⟩ (fun hHeld => ?_)
  clear hK K
  (try simp only [Act.put, List.setIfInBounds_toArray, List.set_cons_zero, List.set_cons_succ])
  refine wpAnyH_ready (rs := [5]) (by kernel_rfl) (by simp) ?_
  refine AllReadyH.cons (o := { dst := some 16, op := Go.Op.call { callee := Go.Callee.value (Go.Operand.func 47), args := #[Go.Operand.tmp 11, Go.Operand.tmp 13, Go.Operand.tmp 15], argTypes := #[96, 100, 3] }, type := 0, pos := "l3_best.go:71", after := #[{ on := 0, ground := Go.Ground.data }, { on := 2, ground := Go.Ground.data }, { on := 4, ground := Go.Ground.data }, { on := 4, ground := Go.Ground.chain }], guard := none }) rfl (fun K hK => ?_) AllReadyH.nil
  go_simp
  go_at_call 47
  refine (hlk w6 gR c nc hB36 hLP6).mono ?_
  rintro _ w7 ⟨rfl, hM7, cA, nA, ncA, hS7⟩
  go_wp2_with fail
  refine hK.out _ _ ⟨(hM7.below.cell (p := ⟨w.heap.size, 0, none⟩) lM).trans (cellLater hB36 x0), (hM7.below.cell (p := ⟨w.heap.size, 1, none⟩) lM).trans (cellLater hB36 x1), (hM7.below.cell (p := ⟨w.heap.size, 2, none⟩) lM).trans (cellLater hB36 x2)⟩ (fun hHeld => ?_)
  clear hK K
  (try simp only [Act.put, List.setIfInBounds_toArray, List.set_cons_zero, List.set_cons_succ])
  refine wpAnyH_done (by kernel_rfl) ?_ _
  refine NoPanic.normal ?_
  have lB : w2.heap.size ≤ w6.heap.size := Nat.le_of_lt (Nat.lt_of_lt_of_le lt3 hB36.size)
  have hB27 : Below w2.heap.size w2 w7 := (Below.join hB3 (Nat.le_refl _) hB36).trans hM7.below
  have hRm7 := hRm.below hB27 lR2
  have hB7 : Below w.heap.size w w7 := Below.join hBw (Nat.le_refl _) hB27
  clear hnew hleg hlk hB5 hB35 hB6 hB36 hM7 hLP hLP6 hS3 hB3 hD x0 x1 x2 y0 y1 y2 hHeld
  obtain ⟨r0, rm0, rz0⟩ := hRm7 0 (by omega)
  obtain ⟨r1, rm1, rz1⟩ := hRm7 1 (by omega)
  obtain ⟨r2, rm2, rz2⟩ := hRm7 2 (by omega)
  have hbne : w2.heap.size ≠ w.heap.size + 1 := by omega
  have q3 := hS7.c3
  have q4 := hS7.c4
  have q5 := hS7.c5
  have hplan : Hid _ := hS7.plan
  cases hmet : (solP np g f gap).met
  · rw [hmet] at q3
    have hA : Hid _ := hmet
    clear hmet
    go_wp2
    refine bodyPost_ret (v := .agg #[.bool false, .int .i64 0, .slice none 0 0]) (by simp [results, Tryz.results14, go_sem, rm0, rm1, rm2]) rfl ⟨Or.inr ⟨hA.out, rfl⟩, below_set3 hB7 (by omega) _ _ _⟩
  · rw [hmet] at q3
    have hA : Hid _ := hmet
    obtain ⟨hn, hrows, hfull⟩ := hplan.out hmet
    have hn' : Hid _ := hn
    clear hmet hn
    have hk : ∀ o x y z, (((w7.setCell ⟨w.heap.size + 1, 0, none⟩ x).setCell ⟨w.heap.size + 1, 1, none⟩ y).setCell ⟨w.heap.size + 1, 2, none⟩ z).cell? ⟨w2.heap.size, o, none⟩ = w7.cell? ⟨w2.heap.size, o, none⟩ := fun o x y z =>
      World.cell?_of_block (a := ⟨w2.heap.size, o, none⟩) ((Below.heap_setCell _ _ _ _ hbne).trans ((Below.heap_setCell _ _ _ _ hbne).trans (Below.heap_setCell _ _ _ _ hbne)))
    go_wp2
    go_region_held3 (fun w' => w'.cell? ⟨w2.heap.size, 4, none⟩ = some (.int .i64 (solP np g f gap).cost) ∧ w'.cell? ⟨w2.heap.size, 5, none⟩ = some (.slice cA nA ncA)) (first | exact ⟨q4, q5⟩ | exact ⟨(hk 4 _ _ _).trans q4, (hk 5 _ _ _).trans q5⟩) (fail)
    go_wp2
    have hnv := hn'.out
    subst hnv
    refine bodyPost_ret (v := .agg #[.bool true, .int .i64 (solP nA g f gap).cost, .slice cA nA ncA]) (by simp [results, Tryz.results14, go_sem, rm0, rm1, rm2]) rfl ⟨Or.inl ⟨hA.out, cA, ncA, rfl, ?_, hfull⟩, (below_set3 hB7 (by omega) _ _ _).drew⟩
    refine OwnP.low (B0 := w2.heap.size + 1) ?_ (by omega)
    exact hrows.same (fun k h0 _ => (Below.heap_setCell _ _ _ _ (by dsimp only; omega)).trans ((Below.heap_setCell _ _ _ _ (by dsimp only; omega)).trans (Below.heap_setCell _ _ _ _ (by dsimp only; omega))))
end Go.Proofs.YtnjaegeapcijpaaGreatDoor

namespace Go.Proofs.YtnjaegeapcijpaaGreatDoor
open Go.RowKit

theorem lineT_len {len : Nat} {g : Nat → Int} {gap : Int} {np : Nat} {f : Nat → TrainD} (h : faultOf len g gap np f = (0, 0)) : (lineT len g gap np f).length ≤ 2500 := by
  have hs := smallL_of h
  have h1 := headT_len hs
  have h2 := trainsT_len (b := headT len g gap) hs np (Nat.le_refl _)
  have h3 := hs.n5
  unfold lineT
  omega
theorem DrawnT.back {n : Nat} (hn : n ≤ 5) {t : TrL} (h : DrawnT n t) : BackT t := by
  have h1 := h.frm
  have h2 := h.ready
  have h3 := h.due
  have h4 := h.weight
  obtain ⟨at_, hw⟩ := h.walk
  refine ⟨⟨by omega, by omega⟩, ⟨by omega, by omega⟩, ⟨by omega, by omega⟩, ⟨by omega, by omega⟩, fun x hx => ?_⟩
  obtain ⟨j, hj, rfl⟩ := List.mem_iff_getElem.1 hx
  have := hw.legs.2 j hj
  rw [List.getD_eq_getElem?_getD, List.getElem?_eq_getElem hj, Option.getD_some] at this
  omega
/-- what is written of a drawn line is read as that line -/
theorem DrawnL.told {l : LnL} (h : DrawnL l) : toldOf (lineT l.tracks.length (gI l.tracks) l.gap l.trains.length (fT l.trains)) = (0, 0, l) := by
  have hl := lineT_len h.right
  have htr := h.tr
  have hgap := h.gap
  have hb := read_back (l := l) (by omega) (by omega) (fun z hz => by have := h.nums z hz; omega) ⟨by omega, by omega⟩ (fun t ht => (h.each t ht).back htr.2)
  unfold toldOf
  rw [if_neg (by omega), hb]
  show (if (faultL l).1 = 0 then _ else _) = _
  rw [if_pos (by unfold faultL; rw [h.right])]
theorem OwnP.capsT {B0 : Nat} {W : World} {c : Option Addr} {np : Nat} {P : Nat → RowD} (h : OwnP B0 W c np P) : Caps W c np := fun j hj => by
  obtain ⟨gR, v, h1, h2, h3, _⟩ := h
  obtain ⟨e, hc, _⟩ := h2 j hj
  rcases (h3 j hj).2 with ⟨e0, h0⟩ | ⟨g, cp, cur, e0, hb, hg, hle, _⟩
  · exact ⟨gR, 0, none, 0, 0, e, by rw [Nat.zero_add, hc, e0], Nat.le_refl _⟩
  · exact ⟨gR, 0, some ⟨g, 0, none⟩, (P j).n, cp, e, by rw [Nat.zero_add, hc, e0], hle⟩
/-- a best plan, or none, as it lies -/
theorem SolPost.lies {w w' : World} {np : Nat} {f : Nat → TrainD} {A : Acc} {e : Ending} (h : SolPost w np f A e w') (h5 : np ≤ 5) (h10 : ∀ j, j < np → (f j).nl ≤ 10) :
    ∃ b z c n nc P, e = .returned (.agg #[.bool b, .int .i64 z, .slice c n nc]) ∧ n ≤ 5 ∧ (∀ j, j < n → (P j).n ≤ 10) ∧ IsRows 0 w'.heap.size w' c n P ∧ Caps w' c n ∧ Below w.heap.size w w' := by
  obtain ⟨h1, hB⟩ := h
  rcases h1 with ⟨_, c, nc, e1, ho, hf⟩ | ⟨_, e1⟩
  · have hn : ∀ j, j < np → (A.plan j).n ≤ 10 := fun j hj => by rw [hf j hj]; exact h10 j hj
    exact ⟨true, A.cost, c, np, nc, A.plan, e1, h5, hn, (ho.rows hn).mono (Nat.zero_le _) (Nat.le_refl _), ho.capsT, hB⟩
  · exact ⟨false, 0, none, 0, 0, fun _ => ⟨0, fun _ => 0⟩, e1, Nat.zero_le _, fun j hj => absurd hj (Nat.not_lt_zero j), fun j hj => absurd hj (Nat.not_lt_zero j), fun j hj => absurd hj (Nat.not_lt_zero j), hB⟩
end Go.Proofs.YtnjaegeapcijpaaGreatDoor

namespace Go.Proofs.YtnjaegeapcijpaaGreatDoor
open Go.RowKit

/-- bytes, as they lie -/
def IsB (W : World) (a : Option Addr) (len : Nat) : Prop := ∀ j, j < len → ∃ b off v, a = some ⟨b, off, none⟩ ∧ W.cell? ⟨b, off + j, none⟩ = some (.int .u8 v) ∧ 0 ≤ v ∧ v ≤ 255
theorem IsB.later {W W' : World} {a : Option Addr} {len : Nat} (h : IsB W a len) (hB : Below W.heap.size W W') : IsB W' a len := fun j hj => by
  obtain ⟨b, off, v, e, hc, h0, h1⟩ := h j hj
  exact ⟨b, off, v, e, cellLater hB hc, h0, h1⟩
/-- the box of choices at block b, behind the world w0 that it was made in; at most k were taken -/
structure Cur (w0 : World) (b k : Nat) (W : World) : Prop where
  base : Below w0.heap.size w0 W
  lo : w0.heap.size ≤ b
  code : ∃ a len cap, W.cell? ⟨b, 0, none⟩ = some (.slice a len cap) ∧ len ≤ 1048576 ∧ IsB w0 a len
  at_ : ∃ x : Int, 0 ≤ x ∧ x ≤ k ∧ W.cell? ⟨b, 1, none⟩ = some (.int .i64 x)
  seed : ∃ y : Int, 0 ≤ y ∧ y < 18446744073709551616 ∧ W.cell? ⟨b, 2, none⟩ = some (.int .u64 y)
  z1 : W.frozen? ⟨b, 1, none⟩ = false
  z2 : W.frozen? ⟨b, 2, none⟩ = false
section
variable {w0 W W' : World} {b k : Nat}
theorem Cur.lt (h : Cur w0 b k W) : b < W.heap.size := by
  obtain ⟨x, _, _, hc⟩ := h.at_
  exact ltCell hc
theorem Cur.same (h : Cur w0 b k W) (hB : Below w0.heap.size w0 W') (hb : W'.heap[b]? = W.heap[b]?) : Cur w0 b k W' := by
  have cc : ∀ o u, W.cell? ⟨b, o, none⟩ = some u → W'.cell? ⟨b, o, none⟩ = some u := fun o u hu => (World.cell?_of_block (w := W) (w' := W') (a := ⟨b, o, none⟩) hb).trans hu
  have zz : ∀ o, W.frozen? ⟨b, o, none⟩ = false → W'.frozen? ⟨b, o, none⟩ = false := fun o hu => (World.frozen?_of_block (w := W) (w' := W') (a := ⟨b, o, none⟩) hb).trans hu
  obtain ⟨a, len, cap, h1, h2⟩ := h.code
  obtain ⟨x, h3, h4, h5⟩ := h.at_
  obtain ⟨y, h6, h7, h8⟩ := h.seed
  exact ⟨hB, h.lo, ⟨a, len, cap, cc 0 _ h1, h2⟩, ⟨x, h3, h4, cc 1 _ h5⟩, ⟨y, h6, h7, cc 2 _ h8⟩, zz 1 h.z1, zz 2 h.z2⟩
theorem Cur.later (h : Cur w0 b k W) (hB : Below W.heap.size W W') : Cur w0 b k W' := h.same (Below.join h.base (Nat.le_refl _) hB) (hB.block b h.lt)
theorem Cur.more (h : Cur w0 b k W) {k' : Nat} (hk : k ≤ k') : Cur w0 b k' W := by
  obtain ⟨x, h3, h4, h5⟩ := h.at_
  exact ⟨h.base, h.lo, h.code, ⟨x, h3, by omega, h5⟩, h.seed, h.z1, h.z2⟩
theorem Cur.step (h : Cur w0 b k W) {x y : Int} (hx : 0 ≤ x) (hx1 : x ≤ k + 1) (hy : 0 ≤ y) (hy1 : y < 18446744073709551616) : Cur w0 b (k + 1) ((W.setCell ⟨b, 1, none⟩ (.int .i64 x)).setCell ⟨b, 2, none⟩ (.int .u64 y)) := by
  obtain ⟨a, len, cap, h1, h2⟩ := h.code
  obtain ⟨x0, _, _, h5⟩ := h.at_
  obtain ⟨y0, _, _, h8⟩ := h.seed
  exact ⟨(h.base.setCell (p := ⟨b, 1, none⟩) h.lo _).setCell (p := ⟨b, 2, none⟩) h.lo _, h.lo, ⟨a, len, cap, (cell_set_ne (by omega)).trans ((cell_set_ne (by omega)).trans h1), h2⟩, ⟨x, hx, by omega, (cell_set_ne (by omega)).trans (World.cell?_setCell_same _ _ _ h5)⟩, ⟨y, hy, hy1, World.cell?_setCell_same _ _ _ ((cell_set_ne (by omega)).trans h8)⟩, by rw [World.frozen?_setCell, World.frozen?_setCell]; exact h.z1, by rw [World.frozen?_setCell, World.frozen?_setCell]; exact h.z2⟩
theorem Cur.step' (h : Cur w0 b k W) {x y : Int} (hx : 0 ≤ x) (hx1 : x ≤ k + 1) (hy : 0 ≤ y) (hy1 : y < 18446744073709551616) : Cur w0 b (k + 1) ((W.setCell ⟨b, 2, none⟩ (.int .u64 y)).setCell ⟨b, 1, none⟩ (.int .i64 x)) := by
  obtain ⟨a, len, cap, h1, h2⟩ := h.code
  obtain ⟨x0, _, _, h5⟩ := h.at_
  obtain ⟨y0, _, _, h8⟩ := h.seed
  exact ⟨(h.base.setCell (p := ⟨b, 2, none⟩) h.lo _).setCell (p := ⟨b, 1, none⟩) h.lo _, h.lo, ⟨a, len, cap, (cell_set_ne (by omega)).trans ((cell_set_ne (by omega)).trans h1), h2⟩, ⟨x, hx, by omega, World.cell?_setCell_same _ _ _ ((cell_set_ne (by omega)).trans h5)⟩, ⟨y, hy, hy1, (cell_set_ne (by omega)).trans (World.cell?_setCell_same _ _ _ h8)⟩, by rw [World.frozen?_setCell, World.frozen?_setCell]; exact h.z1, by rw [World.frozen?_setCell, World.frozen?_setCell]; exact h.z2⟩
end

theorem wrap_u64 (z : Int) : 0 ≤ IntKind.u64.wrap z ∧ IntKind.u64.wrap z < 18446744073709551616 := by
  rw [IntKind.wrap_u64]
  omega
theorem and_255 (z : Int) (h0 : 0 ≤ z) (h1 : z < 18446744073709551616) : 0 ≤ wrap64 (bits .and .u64 (z / 1099511627776) 255) ∧ wrap64 (bits .and .u64 (z / 1099511627776) 255) ≤ 255 := by
  obtain ⟨n, hn⟩ : ∃ n : Nat, z / 1099511627776 = (n : Int) := ⟨(z / 1099511627776).toNat, by omega⟩
  have hb := bits_and_u64_nat n 255 (by omega) (by decide)
  have hle : n &&& 255 ≤ 255 := Nat.and_le_right
  rw [hn, show (255 : Int) = ((255 : Nat) : Int) from rfl, hb]
  unfold wrap64
  omega
set_option maxRecDepth 20000 in
set_option maxHeartbeats 4000000 in
theorem next_any (w0 : World) (b k : Nat) (w : World) (hk : k ≤ 1000000) (hC : Cur w0 b k w) :
    Calls Tryz.prog 56 #[.pointer (some ⟨b, 0, none⟩)] w fun e w' => ∃ x : Int, e = .returned (.int .i64 x) ∧ 0 ≤ x ∧ x ≤ 255 ∧ Cur w0 b (k + 1) w' ∧ Mid b (b + 1) w w' := by
  obtain ⟨a, len, cap, c0, hl, hI⟩ := hC.code
  obtain ⟨x, hx0, hx1, c1⟩ := hC.at_
  obtain ⟨y, hy0, hy1, c2⟩ := hC.seed
  have z1 := hC.z1
  have z2 := hC.z2
  by_cases hlt : x < len
  · obtain ⟨j, rfl⟩ : ∃ j : Nat, x = j := ⟨x.toNat, by omega⟩
    obtain ⟨b', off, v, rfl, cv, hv0, hv1⟩ := hI j (by omega)
    replace cv := cellLater hC.base cv
    go_enter Tryz.func56, Tryz.ntmps56
    go_wp2
    go_region_held3 (fun w' => w'.cell? ⟨b, 0, none⟩ = some (.slice (some ⟨b', off, none⟩) len cap) ∧ w'.cell? ⟨b, 1, none⟩ = some (.int .i64 j)) (first | go_keep) (fail)
    go_wp2
    go_region_held3 (fun w' => w'.cell? ⟨b, 0, none⟩ = some (.slice (some ⟨b', off, none⟩) len cap) ∧ w'.cell? ⟨b, 1, none⟩ = some (.int .i64 j) ∧ w'.cell? ⟨b', off + j, none⟩ = some (.int .u8 v)) (first | go_keep) (fail)
    go_wp2
    go_ret
    exact ⟨v, rfl, hv0, hv1, ((hC.step (by omega) (by omega) (wrap_u64 _).1 (wrap_u64 _).2).later ((Below.refl _ _).drew)).later ((Below.refl _ _).drew), (((Mid.set (Nat.le_refl _) (Nat.lt_succ_self _) _).trans (Mid.set (Nat.le_refl _) (Nat.lt_succ_self _) _)).trans (Mid.ofBelow ((Below.refl _ _).drew) (by simp; exact Nat.le_of_lt hC.lt))).trans (Mid.ofBelow ((Below.refl _ _).drew) (by simp; exact Nat.le_of_lt hC.lt))⟩
  · have hlt' : ¬ (x < (len : Int)) := hlt
    go_enter Tryz.func56, Tryz.ntmps56
    go_wp2
    go_region_held3 (fun w' => w'.cell? ⟨b, 0, none⟩ = some (.slice a len cap) ∧ w'.cell? ⟨b, 1, none⟩ = some (.int .i64 x)) (first | go_keep) (fail)
    go_wp2
    go_ret
    obtain ⟨r0, r1⟩ := and_255 _ (wrap_u64 (IntKind.u64.wrap (y * 6364136223846793005) + 1442695040888963407)).1 (wrap_u64 (IntKind.u64.wrap (y * 6364136223846793005) + 1442695040888963407)).2
    exact ⟨_, rfl, r0, r1, (hC.step' (by omega) (by omega) (wrap_u64 _).1 (wrap_u64 _).2).later ((Below.refl _ _).drew), ((Mid.set (Nat.le_refl _) (Nat.lt_succ_self _) _).trans (Mid.set (Nat.le_refl _) (Nat.lt_succ_self _) _)).trans (Mid.ofBelow ((Below.refl _ _).drew) (by simp; exact Nat.le_of_lt hC.lt))⟩
end Go.Proofs.YtnjaegeapcijpaaGreatDoor

namespace Go.Proofs.YtnjaegeapcijpaaGreatDoor
open Go.RowKit

theorem rem_small {x n : Int} (hn : 1 < n) : 0 ≤ x % n ∧ x % n < n := ⟨Int.emod_nonneg _ (by omega), Int.emod_lt_of_pos _ (by omega)⟩
set_option maxHeartbeats 2000000 in
theorem pick_any (w0 : World) (b k : Nat) (n : Int) (w : World) (hk : k ≤ 900000) (hn : n ≤ 100000) (hC : Cur w0 b k w) :
    Calls Tryz.prog 21 #[.pointer (some ⟨b, 0, none⟩), .int .i64 n] w fun e w' => ∃ x : Int, e = .returned (.int .i64 x) ∧ 0 ≤ x ∧ (x < n ∨ x = 0) ∧ Cur w0 b (k + 2) w' ∧ Mid b (b + 1) w w' := by
  by_cases h1 : n ≤ 1
  · go_enter Tryz.func21, Tryz.ntmps21
    go_wp2
    go_ret
    exact ⟨0, rfl, Int.le_refl _, Or.inr rfl, hC.more (by omega), Mid.refl _ _ _⟩
  · have hN := next_any w0 b k w (by omega) hC
    have hn0 : n ≠ 0 := by omega
    by_cases h2 : 200 < n
    · go_enter Tryz.func21, Tryz.ntmps21
      go_wp2_with (go_at_call 56; refine hN.mono ?_; rintro _ w1 ⟨x, rfl, hx0, hx1, hC1, hM1⟩)
      refine (next_any w0 b (k + 1) w1 (by omega) hC1).mono ?_
      rintro _ w2 ⟨y, rfl, hy0, hy1, hC2, hM2⟩
      go_wp2
      go_ret
      obtain ⟨r0, r1⟩ := rem_small (x := x * 256 + y) (show 1 < n by omega)
      exact ⟨_, rfl, r0, Or.inl r1, hC2, hM1.trans hM2⟩
    · go_enter Tryz.func21, Tryz.ntmps21
      go_wp2_with (go_at_call 56; refine hN.mono ?_; rintro _ w1 ⟨x, rfl, hx0, hx1, hC1, hM1⟩)
      go_ret
      obtain ⟨r0, r1⟩ := rem_small (x := x) (show 1 < n by omega)
      exact ⟨_, rfl, r0, Or.inl r1, hC1.more (by omega), hM1⟩
end Go.Proofs.YtnjaegeapcijpaaGreatDoor

namespace Go.Proofs.YtnjaegeapcijpaaGreatDoor
open Go.RowKit

/-- the first region of a code -/
def firstRegC : Code → Option Nat
  | .region i _ _ => some i
  | .seq a b => match firstRegC a with
    | some i => some i
    | none => firstRegC b
  | .block _ c => firstRegC c
  | .scope c => firstRegC c
  | .loop c => firstRegC c
  | _ => none
/-- the body of the loop that begins with a region -/
def loopAtC (id : Nat) : Code → Option Code
  | .loop c => match firstRegC c with
    | some i => if i = id then some c else loopAtC id c
    | none => loopAtC id c
  | .seq a b => match loopAtC id a with
    | some c => some c
    | none => loopAtC id b
  | .block _ c => loopAtC id c
  | .scope c => loopAtC id c
  | .cond _ a b => match loopAtC id a with
    | some c => some c
    | none => loopAtC id b
  | _ => none
noncomputable def lineL : Code := ((Tryz.f19.body.bind (loopAtC 14)).getD .skip)

theorem Cur.grown {w0 W W' : World} {b k : Nat} {row : Option Nat} (h : Cur w0 b k W) (hg : W.grownBy W' row) (hr : ∀ j, row = some j → b < j) : Cur w0 b k W' :=
  h.same (below_grown h.base hg (by have := h.base.size; omega) (fun j hj => by have := hr j hj; have := h.lo; omega)) (hg.block b h.lt (fun e => by have := hr b e.symm; omega))
theorem Cur.set {w0 W : World} {b k : Nat} (h : Cur w0 b k W) (p : Addr) (hp : b < p.block) (x : Value) : Cur w0 b k (W.setCell p x) :=
  h.same (h.base.setCell (by have := h.lo; omega) x) (Below.heap_setCell W p x b (by omega))
theorem TBox.grown4 {B0 bt : Nat} {W W' : World} {t : TrL} {lv : Value} (h : TBox B0 bt W t lv) (hg : W.grownBy W' lv.ownBlock) : W'.cell? ⟨bt, 4, none⟩ = some lv ∧ W'.frozen? ⟨bt, 4, none⟩ = false := by
  have hbk : W'.heap[bt]? = W.heap[bt]? := hg.block bt (ltCell h.c0) (fun e => h.off e.symm)
  exact ⟨(World.cell?_of_block (w := W) (w' := W') (a := ⟨bt, 4, none⟩) hbk).trans h.c4, (World.frozen?_of_block (w := W) (w' := W') (a := ⟨bt, 4, none⟩) hbk).trans h.z4⟩
theorem TBox.due {B0 bt : Nat} {W : World} {t : TrL} {lv : Value} (h : TBox B0 bt W t lv) (d : Int) : TBox B0 bt (W.setCell ⟨bt, 2, none⟩ (.int .i64 d)) { t with due := d } lv :=
  ⟨(cell_set_ne (by omega)).trans h.c0, (cell_set_ne (by omega)).trans h.c1, World.cell?_setCell_same _ _ _ h.c2, (cell_set_ne (by omega)).trans h.c3, (cell_set_ne (by omega)).trans h.c4, (World.frozen?_setCell ..).trans h.z4, ownsRow_same h.legs (fun k hk => Below.heap_setCell W _ _ k (fun e => h.off (by rw [hk, e]))), h.off⟩
theorem LBox.grown2 {B0 bl : Nat} {W W' : World} {tr : List Int} {gap : Int} {L : List TrV} {vt vT : Value} (h : LBox B0 bl W tr gap L vt vT) (hg : W.grownBy W' vT.ownBlock) : W'.cell? ⟨bl, 2, none⟩ = some vT ∧ W'.frozen? ⟨bl, 2, none⟩ = false := by
  have hlt := h.lt
  have hbk : W'.heap[bl]? = W.heap[bl]? := hg.block bl (ltCell h.c0) (fun e => by have := (h.own.trs.lt (Or.inl e.symm)).1; omega)
  exact ⟨(World.cell?_of_block (w := W) (w' := W') (a := ⟨bl, 2, none⟩) hbk).trans h.c2, (World.frozen?_of_block (w := W) (w' := W') (a := ⟨bl, 2, none⟩) hbk).trans h.z2⟩
theorem legs_lie (W : World) (x y z : Int) (o : Obj) : ∀ (j : Nat) (u : Value), [Value.int .i64 x, .int .i64 y, .int .i64 z][j]? = some u → ((W.alloc o).alloc (.cells #[.int .i64 x, .int .i64 y, .int .i64 z] 73)).cell? ((⟨W.heap.size + 1, 0, none⟩ : Addr).add j) = some u := fun j u hj => by
  have h := cells3_lie (W := W.alloc o) (x := .int .i64 x) (y := .int .i64 y) (z := .int .i64 z) (t := 73) j u hj
  rw [World.size_alloc] at h
  exact h
/-- a train in the making -/
structure LegsI (w0 : World) (b bt N kC g k0 : Nat) (y1 y2 y3 : Int) (v3 : World) (g' kk k3 : Nat) (up at' sum : Int) (t : TrL) (lv : Value) (W : World) : Prop where
  tb : TBox (bt + 1) bt W t lv
  same : t.frm = y1 ∧ t.ready = y2 ∧ t.weight = 1 + y3
  gl : t.legs.length + g' = g
  kl : t.legs.length + k3 = k0
  walk : Walk N y1 t.legs at'
  at_ : 0 ≤ at' ∧ at' < N
  up : up = 0 ∨ up = 1
  sum : 0 ≤ sum ∧ sum ≤ 40 + 40 * (t.legs.length : Int)
  cur : Cur w0 b kk W
  kk : kk ≤ kC + 10 + 4 * t.legs.length
  mid : Mid b (b + 1) v3 W
  room : Room bt 5 W
theorem LegsI.step {w0 : World} {b bt N kC g k0 : Nat} {y1 y2 y3 : Int} {v3 : World} {g' kk k3 : Nat} {up at' sum : Int} {t : TrL} {lv : Value} {W v6 v7 W1 : World} {up' tz y6 y7 : Int} {v' : Value} {o o' : Obj}
    (hI : LegsI w0 b bt N kC g k0 y1 y2 y3 v3 g' kk k3 up at' sum t lv W) (hv3 : bt = v3.heap.size) (hbt : b < bt) (hE6 : Mid b (b + 1) W v6) (hE7 : Mid b (b + 1) v6 v7) (hD7 : Cur w0 b (kk + 2 + 2) v7)
    (hg' : 0 < g') (hk3 : 0 < k3) (hup : up' = 0 ∨ up' = 1) (hto : tz = at' + 1 ∨ tz = at' - 1) (ht0 : 0 ≤ tz) (ht1 : tz < N) (hy6 : 0 ≤ y6) (hy61 : y6 < 30 ∨ y6 = 0) (hy7 : 0 ≤ y7) (hy71 : y7 < 6 ∨ y7 = 0)
    (ho : W1.ownsRow (bt + 1) 73 3 v' (t.legs.length + 1) (legCells t.legs ++ [.int .i64 tz, .int .i64 (1 + y6), .int .i64 y7])) (hgr : ((v7.alloc o).alloc o').grownBy W1 lv.ownBlock) (hloc : v'.ownBlock = lv.ownBlock ∨ v'.ownBlock = some (v7.heap.size + 1 + 1)) :
    LegsI w0 b bt N kC g k0 y1 y2 y3 v3 (g' - 1) (kk + 2 + 2) (k3 - 1) up' tz (sum + (1 + y6 + y7)) (t.add ⟨tz, 1 + y6, y7⟩) v' (W1.setCell ⟨bt, 4, none⟩ v') := by
  have hTB7 := (hI.tb.mid hE6 (by omega) hbt).mid hE7 (by omega) hbt
  have hTBA := (hTB7.later (b1 v7 o)).later (b1 (v7.alloc o) o')
  have hrow : ∀ k, lv.ownBlock = some k → bt + 1 ≤ k := fun k hk => (World.ownsRow.lt hTBA.legs k hk).1
  have hgl := hI.gl
  have hkl := hI.kl
  have hkk := hI.kk
  have hsm := hI.sum
  have hlen : (t.add ⟨tz, 1 + y6, y7⟩).legs.length = t.legs.length + 1 := by unfold TrL.add; simp
  have hMA : Mid b (b + 1) v3 ((v7.alloc o).alloc o') := ((((hI.mid.trans hE6).trans hE7).trans (Mid.ofBelow (b1 v7 o) (by have := hD7.lt; omega))).trans (Mid.ofBelow (b1 (v7.alloc o) o') (by have := hD7.lt; rw [World.size_alloc]; omega)))
  exact ⟨hTBA.add (g := ⟨tz, 1 + y6, y7⟩) ho hgr (by simpa [World.size_alloc] using hloc), hI.same, by rw [hlen]; omega, by rw [hlen]; omega, Walk.snoc (g := ⟨tz, 1 + y6, y7⟩) hI.walk hto ht0 ht1 (by dsimp only; omega) (by dsimp only; omega) (by dsimp only; omega) (by dsimp only; omega), ⟨ht0, ht1⟩, hup, by rw [hlen]; omega,
    (((hD7.later (b1 v7 o)).later (b1 (v7.alloc o) o')).grown hgr (fun j hj => by have := hrow j hj; omega)).set _ hbt _, by rw [hlen]; omega, (hMA.grown hgr (fun j hj => by have := hrow j hj; omega) (by omega)).setNew _ (by show v3.heap.size ≤ bt; omega) (by omega) _,
    (((((hI.room.keep hE6).keep hE7).keep (Mid.ofBelow (lo := 0) (hi := 0) (b1 v7 o) (Nat.zero_le _))).keep (Mid.ofBelow (lo := 0) (hi := 0) (b1 (v7.alloc o) o') (Nat.zero_le _))).grown hgr (fun j hj e => by have := hrow j hj; omega)).set _ _⟩
set_option maxRecDepth 20000 in
set_option maxHeartbeats 8000000 in
theorem line_legs {s1 s2 s3 s4 s5 s6 s14 s15 s16 s17 s18 s19 s20 s21 s22 s23 s24 s25 s26 s27 s28 s29 s30 s31 s32 s33 s34 s35 s36 s37 s38 s39 s40 s41 s42 s43 s44 s45 s46 s47 s48 s49 s50 s51 s52 s53 s54 s55 s56 s57 s58 s59 s60 s61 s62 s63 s64 s65 s66 s67 s68 s69 s70 s71 s72 s73 s74 s75 s76 s77 s78 s79 s80 s81 s82 s83 s84 s85 s86 s87 s88 s89 s90 s91 s92 s93 s94 s95 s96 s97 s98 s99 s100 s101 s102 s103 s104 s105 s106 s107 s108 s109 s110 s111 s112 s113 s114 s115 s116 s117 s118 s119 s120 s121 s122 s123 s124 s125 s126 s127 s128 s129 : Value} (w0 : World) (b bt N kC g k0 : Nat) (y1 y2 y3 y4 : Int) (v3 v5 : World) (K : Act → World → Prop) (Q : Exit → Act → World → Prop)
    (hK : ∀ (u14 u70 u71 u72 u73 u74 u75 u76 u77 u78 u79 u80 u81 u82 u83 u84 u85 u86 u87 u88 u89 u90 u91 u92 u93 u94 u95 u96 u97 u98 u99 u100 u101 u102 u103 u104 u105 u106 u107 u108 u109 u110 c8 c10 c11 c12 c13 : Value) (g' kk k3 : Nat) (up at' sum : Int) (t : TrL) (lv : Value) (W : World), LegsI w0 b bt N kC g k0 y1 y2 y3 v3 g' kk k3 up at' sum t lv W → 0 < t.legs.length → c8 = .int .i64 g' → c12 = .int .i64 sum → K ⟨(.pointer (some ⟨b, 0, none⟩) :: s1 :: s2 :: s3 :: s4 :: s5 :: s6 :: .int .i64 N :: c8 :: .pointer (some ⟨bt, 0, none⟩) :: c10 :: c11 :: c12 :: c13 :: u14 :: s15 :: s16 :: s17 :: s18 :: s19 :: s20 :: s21 :: s22 :: s23 :: s24 :: s25 :: s26 :: s27 :: s28 :: s29 :: s30 :: s31 :: s32 :: s33 :: s34 :: s35 :: s36 :: s37 :: s38 :: s39 :: s40 :: s41 :: s42 :: s43 :: s44 :: s45 :: s46 :: s47 :: s48 :: s49 :: s50 :: s51 :: s52 :: s53 :: s54 :: s55 :: s56 :: s57 :: s58 :: s59 :: s60 :: s61 :: s62 :: s63 :: s64 :: s65 :: s66 :: s67 :: s68 :: s69 :: u70 :: u71 :: u72 :: u73 :: u74 :: u75 :: u76 :: u77 :: u78 :: u79 :: u80 :: u81 :: u82 :: u83 :: u84 :: u85 :: u86 :: u87 :: u88 :: u89 :: u90 :: u91 :: u92 :: u93 :: u94 :: u95 :: u96 :: u97 :: u98 :: u99 :: u100 :: u101 :: u102 :: u103 :: u104 :: u105 :: u106 :: u107 :: u108 :: u109 :: u110 :: s111 :: s112 :: s113 :: s114 :: s115 :: s116 :: s117 :: s118 :: s119 :: s120 :: s121 :: s122 :: s123 :: s124 :: s125 :: s126 :: s127 :: s128 :: s129 :: []).toArray, []⟩ W)
    (hkC : kC ≤ 5000) (hN : 2 ≤ N ∧ N ≤ 5) (hg : 0 < g ∧ g ≤ 9) (hk0 : 1 ≤ k0 ∧ k0 ≤ 4) (hbt : b < bt) (hv3 : bt = v3.heap.size)
    (hI : LegsI w0 b bt N kC g k0 y1 y2 y3 v3 g (kC + 10) k0 y4 y1 y2 ⟨y1, y2, 0, 1 + y3, []⟩ (.slice none 0 0) v5) :
    Code.wp Tryz.prog (Code.loop lineL) (Exit.inBlock 4 (Exit.then K (Exit.inBlock 3 Q))) ⟨(.pointer (some ⟨b, 0, none⟩) :: s1 :: s2 :: s3 :: s4 :: s5 :: s6 :: .int .i64 N :: .int .i64 g :: .pointer (some ⟨bt, 0, none⟩) :: .int .i64 y4 :: .int .i64 y1 :: .int .i64 y2 :: .int .i64 k0 :: s14 :: s15 :: s16 :: s17 :: s18 :: s19 :: s20 :: s21 :: s22 :: s23 :: s24 :: s25 :: s26 :: s27 :: s28 :: s29 :: s30 :: s31 :: s32 :: s33 :: s34 :: s35 :: s36 :: s37 :: s38 :: s39 :: s40 :: s41 :: s42 :: s43 :: s44 :: s45 :: s46 :: s47 :: s48 :: s49 :: s50 :: s51 :: s52 :: s53 :: s54 :: s55 :: s56 :: s57 :: s58 :: s59 :: s60 :: s61 :: s62 :: s63 :: s64 :: s65 :: s66 :: s67 :: s68 :: s69 :: s70 :: s71 :: s72 :: s73 :: s74 :: s75 :: s76 :: s77 :: s78 :: s79 :: s80 :: s81 :: s82 :: s83 :: s84 :: s85 :: s86 :: s87 :: s88 :: s89 :: s90 :: s91 :: s92 :: s93 :: s94 :: s95 :: s96 :: s97 :: s98 :: s99 :: s100 :: s101 :: s102 :: s103 :: s104 :: s105 :: s106 :: s107 :: s108 :: s109 :: s110 :: s111 :: s112 :: s113 :: s114 :: s115 :: s116 :: s117 :: s118 :: s119 :: s120 :: s121 :: s122 :: s123 :: s124 :: s125 :: s126 :: s127 :: s128 :: s129 :: []).toArray, []⟩ v5 := by
  conv => arg 2; arg 1; whnf
  have hK' : Hid _ := hK
  clear hK
  have hv3' : Hid (bt = v3.heap.size) := hv3
  clear hv3
  go_loopw [8, 10, 11, 12, 13] (fun c8 c10 c11 c12 c13 wr => ∃ (g' kk k3 : Nat) (up at' sum : Int) (t : TrL) (lv : Value), c8 = .int .i64 g' ∧ c10 = .int .i64 up ∧ c11 = .int .i64 at' ∧ c12 = .int .i64 sum ∧ c13 = .int .i64 k3 ∧ LegsI w0 b bt N kC g k0 y1 y2 y3 v3 g' kk k3 up at' sum t lv wr) (fun _ _ _ _ c13 _ => (intOf c13).toNat)
  case atStart => exact ⟨g, kC + 10, k0, y4, y1, y2, ⟨y1, y2, 0, 1 + y3, []⟩, _, rfl, rfl, rfl, rfl, rfl, hI⟩
  case round =>
    clear hI
    obtain ⟨g', kk, k3, up, at', sum, t, lv, rfl, rfl, rfl, rfl, rfl, hI⟩ := hrel
    have hTB := hI.tb
    obtain ⟨la, lc, rfl, _⟩ := OwnLegs.legs hTB.legs
    have hgl := hI.gl
    have hkl := hI.kl
    have hkk := hI.kk
    by_cases hk3 : 0 < k3 ∧ 0 < g'
    · have hk31 : (0 : Int) < (k3 : Int) := by omega
      have hk32 : (0 : Int) < (g' : Int) := by omega
      have hat := hI.at_
      have hup := hI.up
      have hsm := hI.sum
      have htl : t.legs.length ≤ 4 := by omega
      have hP6 := pick_any w0 b kk 30 wr (by omega) (by decide) hI.cur
      obtain ⟨i0, ii, iz0, iz1, iz2⟩ := info3 Tryz.infoLeg
      have hbtw : bt < wr.heap.size := ltCell hTB.c0
      have hcase : at' = 0 ∨ (at' ≠ 0 ∧ at' = (N : Int) - 1) ∨ (at' ≠ 0 ∧ at' ≠ (N : Int) - 1 ∧ up = 0) ∨ (at' ≠ 0 ∧ at' ≠ (N : Int) - 1 ∧ up = 1) := by omega
      rcases hcase with rfl | ⟨hn0, rfl⟩ | ⟨hn0, hn1, rfl⟩ | ⟨hn0, hn1, rfl⟩
      all_goals
        have hz1 : ¬ ((0 : Int) = (N : Int) - 1) := by omega
        go_wp2_with (first | (go_at_call 21; with_reducible refine hP6.mono ?_; rintro _ v6 ⟨y6, rfl, hy60, hy61, hD6, hE6⟩; have hP7 := pick_any w0 b (kk + 2) 6 v6 (by omega) (by decide) hD6) | (go_at_call 21; with_reducible refine hP7.mono ?_; rintro _ v7 ⟨y7, rfl, hy70, hy71, hD7, hE7⟩; have hTB7 := (hTB.mid hE6 (by omega) hbt).mid hE7 (by omega) hbt; have hsz7 : bt < v7.heap.size := ltCell hTB7.c0; have m4 := hTB7.c4; have m4' : ∀ o, (v7.alloc o).cell? ⟨bt, 4, none⟩ = some (.slice la t.legs.length lc) := fun o => cellLater (b1 v7 o) m4) | (at_builtin; refine wpList_append_own_at _ rfl _ _ 69 rfl (bt + 1) 73 i0 _ 3 24 Tryz.underlying69 ii iz0 iz1 iz2 rfl (by decide) _ _ _ rfl ((hTB7.later (b1 v7 _)).later (b1 _ _)).legs ⟨v7.heap.size + 1, 0, none⟩ 1 1 _ rfl (by rfl) (legs_lie v7 _ _ _ _) one3 (by unfold maxLen; omega) (by omega) (by simp only [World.size_alloc]; omega) ?_))
        intro v' W1 hown1 hgr1 _ hloc1
        obtain ⟨gn, cn, rfl⟩ := Joins.ownsRow_form hown1 (by omega)
        obtain ⟨m5, z5⟩ := ((hTB7.later (b1 v7 _)).later (b1 _ _)).grown4 hgr1
        clear hP6 hP7 m4 m4'
        go_wp2
        exact ⟨⟨g' - 1, kk + 2 + 2, k3 - 1, _, _, _, _, _, by congr 1; omega, rfl, rfl, rfl, by congr 1; omega, hI.step hv3'.out hbt hE6 hE7 hD7 hk3.2 hk3.1 (by omega) (by omega) (by omega) (by omega) hy60 hy61 hy70 hy71 hown1 hgr1 hloc1⟩, by simp only [intOf]; omega⟩
    · have hlen : 0 < t.legs.length := by omega
      have hcases : (¬ ((0 : Int) < (k3 : Int))) ∨ ((0 : Int) < (k3 : Int) ∧ ¬ ((0 : Int) < (g' : Int))) := by omega
      rcases hcases with hc1 | ⟨hc1, hc2⟩
      all_goals
        go_wp2
        apply hK'.out
        · exact hI
        · exact hlen
        · rfl
        · rfl
end Go.Proofs.YtnjaegeapcijpaaGreatDoor


namespace Go.Proofs.YtnjaegeapcijpaaGreatDoor
open Go.RowKit

theorem lie5 {W : World} {n : Nat} {x y z p q : Value} {t : TypeId} (hn : W.heap.size = n) : ∀ (j : Nat) (u : Value), [x, y, z, p, q][j]? = some u → (W.alloc (.cells #[x, y, z, p, q] t)).cell? ((⟨n, 0, none⟩ : Addr).add j) = some u := by
  subst hn
  exact cells5_lie
noncomputable def lineTrs : Code := ((Tryz.f19.body.bind (loopAtC 8)).getD .skip)
/-- a line in the making, its tracks done -/
structure TrsI (w0 : World) (b bl N k lg : Nat) (tr : List Int) (gp : Int) (vt : Value) (w : World) (g kC : Nat) (L : List TrV) (vT : Value) (W : World) : Prop where
  sum : (L.map fun x => x.1.legs.length).sum + g = lg
  len : L.length ≤ 5
  more : kC ≤ k + 30 + 20 * L.length + 10 * (L.map fun x => x.1.legs.length).sum
  dr : ∀ x ∈ L, DrawnT N x.1
  box : LBox (bl + 1) bl W tr gp L vt vT
  cur : Cur w0 b kC W
  mid : Mid b (b + 1) w W
  room : Room w.heap.size 3 W
theorem TrsI.step {w0 : World} {b bl N k lg : Nat} {tr : List Int} {gp : Int} {vt : Value} {w : World} {g kC : Nat} {L : List TrV} {vT : Value} {wr : World} {bt k0 : Nat} {y1 y2 y3 : Int} {v3 : World} {g' kk k3 : Nat} {up at' sum : Int} {t : TrL} {lv : Value} {W WD W1 : World} {d : Int} {v' : Value} {o : Obj}
    (hT : TrsI w0 b bl N k lg tr gp vt w g kC L vT wr) (hM3 : Mid b (b + 1) wr v3) (hI : LegsI w0 b bt N kC g k0 y1 y2 y3 v3 g' kk k3 up at' sum t lv W) (hv3 : bt = v3.heap.size) (hbl : b < bl) (hblw : w.heap.size < bl) (hbw : b < w.heap.size) (hN : 0 ≤ y1 ∧ y1 < N) (hy2 : 0 ≤ y2 ∧ y2 ≤ 40) (hy3 : 0 ≤ y3 ∧ y3 ≤ 3) (hL5 : L.length < 5) (hl0 : 0 < t.legs.length)
    (hMD : Mid b (b + 1) v3 WD) (hTD : TBox (bt + 1) bt WD { t with due := d } lv) (hCD : Cur w0 b (kk + 2 + 2) WD) (hd : 0 ≤ d ∧ d ≤ 1000)
    (ho : W1.ownsRow (bl + 1) 71 5 v' (L.length + 1) (trCells L ++ [.int .i64 t.frm, .int .i64 t.ready, .int .i64 d, .int .i64 t.weight, lv])) (hgr : (WD.alloc o).grownBy W1 vT.ownBlock) (hloc : v'.ownBlock = vT.ownBlock ∨ v'.ownBlock = some (WD.alloc o).heap.size) :
    TrsI w0 b bl N k lg tr gp vt w g' (kk + 2 + 2) (L ++ [({ t with due := d }, lv)]) v' (W1.setCell ⟨bl, 2, none⟩ v') := by
  have hLB3 := hT.box.mid hM3 hbl
  have hbl3 : bl < v3.heap.size := ltCell hLB3.c0
  have hMA : Mid b (b + 1) v3 (WD.alloc o) := hMD.trans (Mid.ofBelow (b1 WD o) (by have := hCD.lt; omega))
  have hLBA := hLB3.mid hMA hbl
  have hTA := hTD.later (b1 WD o)
  have hgl := hI.gl
  have hsum := hT.sum
  have hkC := hT.more
  have hkk := hI.kk
  have hsame := hI.same
  have hlen : ((L ++ [({ t with due := d }, lv)]).map fun x : TrV => x.1.legs.length).sum = (L.map fun x => x.1.legs.length).sum + t.legs.length := by simp
  have hlen2 : (L ++ [({ t with due := d }, lv)]).length = L.length + 1 := by simp
  have hrow : ∀ j, vT.ownBlock = some j → bl + 1 ≤ j := fun j hj => (hLB3.own.trs.lt (Or.inl hj)).1
  have hMw : Mid b (b + 1) w (WD.alloc o) := (hT.mid.trans hM3).trans hMA
  refine ⟨by rw [hlen]; omega, by rw [hlen2]; omega, by rw [hlen, hlen2]; omega, fun x hx => ?_, hLBA.snoc (t := { t with due := d }) (lv := lv) ho ?_ (fun j hj => ?_) hgr hloc, ?_, ?_, ?_⟩
  · rcases List.mem_append.1 hx with hx | hx
    · exact hT.dr x hx
    · rw [List.mem_singleton] at hx
      subst hx
      exact ⟨by show 0 ≤ t.frm ∧ t.frm < N; omega, by show 0 ≤ t.ready ∧ t.ready ≤ 40; omega, hd, by show 1 ≤ t.weight ∧ t.weight ≤ 4; omega, hl0, ⟨at', by show Walk N t.frm t.legs at'; rw [hsame.1]; exact hI.walk⟩⟩
  · exact Joins.ownsRow_le hTA.legs (by omega)
  · have hj1 := (World.ownsRow.lt hTA.legs j hj).1
    refine ⟨fun e => ?_, fun e => ?_, fun x hx e => ?_⟩
    · have := (hLB3.own.ints.lt j e).2; omega
    · have := (hLB3.own.trs.lt (Or.inl e)).2; omega
    · have := (hLB3.own.trs.lt (Or.inr ⟨x, hx, e⟩)).2; omega
  · exact ((hCD.later (b1 WD o)).grown hgr (fun j hj => by have := hrow j hj; omega)).set _ hbl _
  · exact (hMw.grown hgr (fun j hj => by have := hrow j hj; omega) (by omega)).setNew _ (by show w.heap.size ≤ bl; omega) (by omega) _
  · exact ((((hT.room.keep hM3).keep hMA)).grown hgr (fun j hj e => by have := hrow j hj; omega)).set _ _
set_option maxRecDepth 20000 in
set_option maxHeartbeats 8000000 in
theorem line_trains {s1 s2 s3 s4 s6 s9 s10 s11 s12 s13 s14 s15 s16 s17 s18 s19 s20 s21 s22 s23 s24 s25 s26 s27 s28 s29 s30 s31 s32 s33 s34 s35 s36 s37 s38 s39 s40 s41 s42 s43 s44 s45 s46 s47 s48 s49 s50 s51 s52 s53 s54 s55 s56 s57 s58 s59 s60 s61 s62 s63 s64 s65 s66 s67 s68 s69 s70 s71 s72 s73 s74 s75 s76 s77 s78 s79 s80 s81 s82 s83 s84 s85 s86 s87 s88 s89 s90 s91 s92 s93 s94 s95 s96 s97 s98 s99 s100 s101 s102 s103 s104 s105 s106 s107 s108 s109 s110 s111 s112 s113 s114 s115 s116 s117 s118 s119 s120 s121 s122 s123 s124 s125 s126 s127 s128 s129 : Value} (w0 : World) (b bl N k lg g0 kC0 : Nat) (tr : List Int) (gp : Int) (vt : Value) (w w3 : World) (K : Act → World → Prop) (Q : Exit → Act → World → Prop)
    (hK : ∀ (u9 u10 u11 u12 u13 u14 u44 u45 u46 u47 u48 u49 u50 u51 u52 u53 u54 u55 u56 u57 u58 u59 u60 u61 u62 u63 u64 u65 u66 u67 u68 u69 u70 u71 u72 u73 u74 u75 u76 u77 u78 u79 u80 u81 u82 u83 u84 u85 u86 u87 u88 u89 u90 u91 u92 u93 u94 u95 u96 u97 u98 u99 u100 u101 u102 u103 u104 u105 u106 u107 u108 u109 u110 u111 u112 u113 u114 u115 u116 u117 u118 u119 u120 u121 u122 u123 u124 u125 u126 u127 u128 c8 : Value) (g kC : Nat) (L : List TrV) (vT : Value) (W : World), TrsI w0 b bl N k lg tr gp vt w g kC L vT W → K ⟨(.pointer (some ⟨b, 0, none⟩) :: s1 :: s2 :: s3 :: s4 :: .pointer (some ⟨bl, 0, none⟩) :: s6 :: .int .i64 N :: c8 :: u9 :: u10 :: u11 :: u12 :: u13 :: u14 :: s15 :: s16 :: s17 :: s18 :: s19 :: s20 :: s21 :: s22 :: s23 :: s24 :: s25 :: s26 :: s27 :: s28 :: s29 :: s30 :: s31 :: s32 :: s33 :: s34 :: s35 :: s36 :: s37 :: s38 :: s39 :: s40 :: s41 :: s42 :: s43 :: u44 :: u45 :: u46 :: u47 :: u48 :: u49 :: u50 :: u51 :: u52 :: u53 :: u54 :: u55 :: u56 :: u57 :: u58 :: u59 :: u60 :: u61 :: u62 :: u63 :: u64 :: u65 :: u66 :: u67 :: u68 :: u69 :: u70 :: u71 :: u72 :: u73 :: u74 :: u75 :: u76 :: u77 :: u78 :: u79 :: u80 :: u81 :: u82 :: u83 :: u84 :: u85 :: u86 :: u87 :: u88 :: u89 :: u90 :: u91 :: u92 :: u93 :: u94 :: u95 :: u96 :: u97 :: u98 :: u99 :: u100 :: u101 :: u102 :: u103 :: u104 :: u105 :: u106 :: u107 :: u108 :: u109 :: u110 :: u111 :: u112 :: u113 :: u114 :: u115 :: u116 :: u117 :: u118 :: u119 :: u120 :: u121 :: u122 :: u123 :: u124 :: u125 :: u126 :: u127 :: u128 :: s129 :: []).toArray, []⟩ W)
    (hk : k ≤ 1000) (hN : 2 ≤ N ∧ N ≤ 5) (hlg : lg ≤ 9) (hbl : b < bl) (hblw : w.heap.size < bl) (hbw : b < w.heap.size)
    (hI : TrsI w0 b bl N k lg tr gp vt w g0 kC0 [] (.slice none 0 0) w3) :
    Code.wp Tryz.prog (Code.loop lineTrs) (Exit.inBlock 2 (Exit.then K Q)) ⟨(.pointer (some ⟨b, 0, none⟩) :: s1 :: s2 :: s3 :: s4 :: .pointer (some ⟨bl, 0, none⟩) :: s6 :: .int .i64 N :: .int .i64 g0 :: s9 :: s10 :: s11 :: s12 :: s13 :: s14 :: s15 :: s16 :: s17 :: s18 :: s19 :: s20 :: s21 :: s22 :: s23 :: s24 :: s25 :: s26 :: s27 :: s28 :: s29 :: s30 :: s31 :: s32 :: s33 :: s34 :: s35 :: s36 :: s37 :: s38 :: s39 :: s40 :: s41 :: s42 :: s43 :: s44 :: s45 :: s46 :: s47 :: s48 :: s49 :: s50 :: s51 :: s52 :: s53 :: s54 :: s55 :: s56 :: s57 :: s58 :: s59 :: s60 :: s61 :: s62 :: s63 :: s64 :: s65 :: s66 :: s67 :: s68 :: s69 :: s70 :: s71 :: s72 :: s73 :: s74 :: s75 :: s76 :: s77 :: s78 :: s79 :: s80 :: s81 :: s82 :: s83 :: s84 :: s85 :: s86 :: s87 :: s88 :: s89 :: s90 :: s91 :: s92 :: s93 :: s94 :: s95 :: s96 :: s97 :: s98 :: s99 :: s100 :: s101 :: s102 :: s103 :: s104 :: s105 :: s106 :: s107 :: s108 :: s109 :: s110 :: s111 :: s112 :: s113 :: s114 :: s115 :: s116 :: s117 :: s118 :: s119 :: s120 :: s121 :: s122 :: s123 :: s124 :: s125 :: s126 :: s127 :: s128 :: s129 :: []).toArray, []⟩ w3 := by
  conv => arg 2; arg 1; whnf
  have hK' : Hid _ := hK
  clear hK
  go_loopw [8] (fun c8 wr => ∃ (g kC : Nat) (L : List TrV) (vT : Value), c8 = .int .i64 g ∧ TrsI w0 b bl N k lg tr gp vt w g kC L vT wr) (fun c8 _ => (intOf c8).toNat)
  case atStart => exact ⟨g0, kC0, [], _, rfl, hI⟩
  case round =>
    clear hI
    obtain ⟨g, kC, L, vT, rfl, hT⟩ := hrel
    have hsum := hT.sum
    have hkC := hT.more
    have hL5 := hT.len
    obtain ⟨aT, cT, rfl, _⟩ := hT.box.own.trs.trains (fun x hx => by
      have h1 : x.1.legs.length ≤ (L.map fun x => x.1.legs.length).sum := le_sum (List.mem_map.2 ⟨x, hx, rfl⟩)
      unfold maxLen; omega)
    have q2 := hT.box.c2
    by_cases hg : 0 < g ∧ L.length < 5
    · have hg1 : (0 : Int) < (g : Int) := by omega
      have hg2 : (L.length : Int) < 5 := by omega
      have hP1 := pick_any w0 b kC N wr (by omega) (by omega) hT.cur
      go_wp2_with (first | (go_at_call 21; with_reducible refine hP1.mono ?_; rintro _ v1 ⟨y1, rfl, hy10, hy11, hD1, hE1⟩; have hP2 := pick_any w0 b (kC + 2) 40 v1 (by omega) (by decide) hD1) | (go_at_call 21; with_reducible refine hP2.mono ?_; rintro _ v2 ⟨y2, rfl, hy20, hy21, hD2, hE2⟩; have hP3 := pick_any w0 b (kC + 2 + 2) 4 v2 (by omega) (by decide) hD2) | (go_at_call 21; with_reducible refine hP3.mono ?_; rintro _ v3 ⟨y3, rfl, hy30, hy31, hD3, hE3⟩))
      have hM3 := (hE1.trans hE2).trans hE3
      have hA3 := b1 v3 (.cells #[.int .i64 y1, .int .i64 y2, .int .i64 0, .int .i64 (1 + y3), .slice none 0 0] 71)
      have hTB3 : TBox (v3.heap.size + 1) v3.heap.size (v3.alloc (.cells #[.int .i64 y1, .int .i64 y2, .int .i64 0, .int .i64 (1 + y3), .slice none 0 0] 71)) ⟨y1, y2, 0, 1 + y3, []⟩ (.slice none 0 0) := by
        refine ⟨?_, ?_, ?_, ?_, ?_, ?_, World.ownsRow_nil _ _ _ _, by simp [Value.ownBlock]⟩
        all_goals simp
      have hb3 : b < v3.heap.size := hD3.lt
      have hMA3 : Mid b (b + 1) v3 (v3.alloc (.cells #[.int .i64 y1, .int .i64 y2, .int .i64 0, .int .i64 (1 + y3), .slice none 0 0] 71)) := Mid.ofBelow hA3 (by omega)
      have hRm3 : Room v3.heap.size 5 (v3.alloc (.cells #[.int .i64 y1, .int .i64 y2, .int .i64 0, .int .i64 (1 + y3), .slice none 0 0] 71)) := Room.lit v3 _ _ 5 (by simp)
      refine (pick_any w0 b (kC + 2 + 2 + 2) 2 _ (by omega) (by decide) (hD3.later hA3)).mono ?_
      rintro _ v4 ⟨y4, rfl, hy40, hy41, hD4, hE4⟩
      have hTB4 := hTB3.mid hE4 (by omega) (by omega)
      have hRm4 := hRm3.keep hE4
      have t0 := hTB4.c0
      have t1 := hTB4.c1
      dsimp only at t0 t1
      have hP5 := pick_any w0 b (kC + 2 + 2 + 2 + 2) 4 v4 (by omega) (by decide) hD4
      obtain ⟨bt, hbt0⟩ : ∃ bt, bt = v3.heap.size := ⟨_, rfl⟩
      rw [← hbt0] at hTB4 hRm4 hb3 t0 t1 ⊢
      have hbt : Hid (bt = v3.heap.size) := hbt0
      have hMv4 := hMA3.trans hE4
      clear hbt0 hTB3 hP1 hP2 hP3 hD1 hD2 hD3 hE1 hE2 hE3 hA3 hMA3 hE4 hRm3 q2
      go_wp2_with (go_at_call 21; with_reducible refine hP5.mono ?_; rintro _ v5 ⟨y5, rfl, hy50, hy51, hD5, hE5⟩)
      have hTB5 := hTB4.mid hE5 (by omega) hb3
      have hRm5 := hRm4.keep hE5
      have hMv5 := hMv4.trans hE5
      obtain ⟨k0, hk0⟩ : ∃ k0 : Nat, 1 + y5 = (k0 : Int) := ⟨(1 + y5).toNat, by omega⟩
      have hk04 : 1 ≤ k0 ∧ k0 ≤ 4 := by omega
      have hy1N : 0 ≤ y1 ∧ y1 < N := by omega
      clear hP5 hTB4 hD4 hE5 hMv4 t0 t1
      rw [hk0]
      rename_i Kz az
      refine line_legs w0 b bt N kC g k0 y1 y2 y3 y4 v3 v5 Kz _ ?_ (by omega) hN (by omega) hk04 hb3 hbt.out ⟨hTB5, ⟨rfl, rfl, rfl⟩, by simp, by simp, Walk.nil, hy1N, by omega, by dsimp only [List.length_nil]; omega, hD5, by dsimp only [List.length_nil]; omega, hMv5, hRm5⟩
      intro u14 u70 u71 u72 u73 u74 u75 u76 u77 u78 u79 u80 u81 u82 u83 u84 u85 u86 u87 u88 u89 u90 u91 u92 u93 u94 u95 u96 u97 u98 u99 u100 u101 u102 u103 u104 u105 u106 u107 u108 u109 u110 c8 c10 c11 c12 c13 g' kk k3 up at' sum t lv W hI hlen e8 e12
      subst e8
      subst e12
      have hsm := hI.sum
      have hgl := hI.gl
      have hkl := hI.kl
      have hkk := hI.kk
      obtain ⟨la, lc, rfl, _⟩ := OwnLegs.legs hI.tb.legs
      have hLB3 := hT.box.mid hM3 hbl
      have hbl3 : bl < v3.heap.size := ltCell hLB3.c0
      obtain ⟨i0, ii, iz0, iz1, iz2⟩ := info3 Tryz.infoTrain
      have hP8 := pick_any w0 b kk 20 W (by omega) (by decide) hI.cur
      refine az _ _ ?_
      clear az hRm5 hMv5 hTB5 hD5
      go_wp2_with (go_at_call 21; with_reducible refine hP8.mono ?_; rintro _ v8 ⟨y8, rfl, hy80, hy81, hD8, hE8⟩)
      refine (pick_any w0 b (kk + 2) 8 v8 (by omega) (by decide) hD8).mono ?_
      rintro _ v9 ⟨y9, rfl, hy90, hy91, hD9, hE9⟩
      have hTB9 := (hI.tb.mid hE8 (by omega) hb3).mid hE9 (by omega) hb3
      have hMv9 := (hI.mid.trans hE8).trans hE9
      obtain ⟨_, _, z2⟩ := ((hI.room.keep hE8).keep hE9) 2 (by omega)
      have t2 := hTB9.c2
      have e2 := (hTB9.due (sum + y8 - y9)).c2
      have hv3b : v3.heap.size ≤ bt ∧ b ≤ v3.heap.size := by have := hbt.out; omega
      have hblt : bl + 1 ≤ v9.heap.size := by have := ltCell t2; dsimp only at this; omega
      by_cases hd : sum + y8 - y9 < 0
      · have hTD := (hTB9.due (sum + y8 - y9)).due 0
        have hMD := (hMv9.setNew ⟨bt, 2, none⟩ hv3b.1 hv3b.2 (.int .i64 (sum + y8 - y9))).setNew ⟨bt, 2, none⟩ hv3b.1 hv3b.2 (.int .i64 0)
        have hCD := (hD9.set ⟨bt, 2, none⟩ hb3 (.int .i64 (sum + y8 - y9))).set ⟨bt, 2, none⟩ hb3 (.int .i64 0)
        have hLD := hLB3.mid hMD hbl
        have f0 := hTD.c0
        have f1 := hTD.c1
        have f2 := hTD.c2
        have f3 := hTD.c3
        have f4 := hTD.c4
        have q2 := hLD.c2
        dsimp only at f0 f1 f2 f3 t2 e2
        go_wp2_with (at_builtin; refine wpList_append_own_at _ rfl _ _ 24 rfl (bl + 1) 71 i0 _ 5 56 Tryz.underlying24 ii iz0 iz1 iz2 rfl (by decide) _ _ _ rfl (hLD.later (b1 _ _)).own.trs.row ⟨v9.heap.size, 0, none⟩ 1 1 [.int .i64 t.frm, .int .i64 t.ready, .int .i64 0, .int .i64 t.weight, .slice la t.legs.length lc] rfl rfl (lie5 (by simp only [World.size_setCell])) (TrV_one (t := { t with due := 0 })) (by unfold maxLen; omega) (by omega) (by simp only [World.size_alloc, World.size_setCell]; omega) ?_)
        intro v' W1 hown1 hgr1 _ hloc1
        obtain ⟨gn, cn, rfl⟩ := Joins.ownsRow_form hown1 (by omega)
        obtain ⟨m2, z2'⟩ := (hLD.later (b1 _ _)).grown2 hgr1
        clear f0 f1 f2 f3 f4 q2 t2 e2 z2
        go_wp2
        go_roundw
        case rel => exact ⟨g', kk + 2 + 2, _, _, rfl, hT.step hM3 hI hbt.out hbl hblw hbw hy1N (by omega) (by omega) (by omega) hlen hMD hTD hCD ⟨Int.le_refl _, by decide⟩ hown1 hgr1 (by simpa using hloc1)⟩
        case measure => simp only [intOf]; omega
      · have hTD := hTB9.due (sum + y8 - y9)
        have hMD := hMv9.setNew ⟨bt, 2, none⟩ hv3b.1 hv3b.2 (.int .i64 (sum + y8 - y9))
        have hCD := hD9.set ⟨bt, 2, none⟩ hb3 (.int .i64 (sum + y8 - y9))
        have hLD := hLB3.mid hMD hbl
        have f0 := hTD.c0
        have f1 := hTD.c1
        have f2 := hTD.c2
        have f3 := hTD.c3
        have f4 := hTD.c4
        have q2 := hLD.c2
        dsimp only at f0 f1 f2 f3 t2 e2
        go_wp2_with (at_builtin; refine wpList_append_own_at _ rfl _ _ 24 rfl (bl + 1) 71 i0 _ 5 56 Tryz.underlying24 ii iz0 iz1 iz2 rfl (by decide) _ _ _ rfl (hLD.later (b1 _ _)).own.trs.row ⟨v9.heap.size, 0, none⟩ 1 1 [.int .i64 t.frm, .int .i64 t.ready, .int .i64 (sum + y8 - y9), .int .i64 t.weight, .slice la t.legs.length lc] rfl rfl (lie5 (by simp only [World.size_setCell])) (TrV_one (t := { t with due := (sum + y8 - y9) })) (by unfold maxLen; omega) (by omega) (by simp only [World.size_alloc, World.size_setCell]; omega) ?_)
        intro v' W1 hown1 hgr1 _ hloc1
        obtain ⟨gn, cn, rfl⟩ := Joins.ownsRow_form hown1 (by omega)
        obtain ⟨m2, z2'⟩ := (hLD.later (b1 _ _)).grown2 hgr1
        clear f0 f1 f2 f3 f4 q2 t2 e2 z2
        go_wp2
        go_roundw
        case rel => exact ⟨g', kk + 2 + 2, _, _, rfl, hT.step hM3 hI hbt.out hbl hblw hbw hy1N (by omega) (by omega) (by omega) hlen hMD hTD hCD (by omega) hown1 hgr1 (by simpa using hloc1)⟩
        case measure => simp only [intOf]; omega
    · have hcases : (¬ ((0 : Int) < (g : Int))) ∨ ((0 : Int) < (g : Int) ∧ ¬ ((L.length : Int) < 5)) := by omega
      rcases hcases with hg1 | ⟨hg1, hg2⟩
      all_goals
        go_wp2
        apply hK'.out
        exact hT
end Go.Proofs.YtnjaegeapcijpaaGreatDoor

