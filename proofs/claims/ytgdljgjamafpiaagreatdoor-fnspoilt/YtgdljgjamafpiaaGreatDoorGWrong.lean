/-
  The program's word on a plan's shape; when a train is at its end by a plan.
  Small laws on worlds that both sides of the second chapter use.
  The program, where a line is not right.
-/
import Derived.Test.YtgdljgjamafpiaaGreatDoorIsRight
import Derived.Test.YtgdljgjamafpiaaGreatDoorSpecQ
import Derived.Test.YtgdljgjamafpiaaGreatDoorBase
namespace Go.Proofs.YtgdljgjamafpiaaGreatDoor
open Go.RowKit

set_option maxHeartbeats 2000000 in
theorem end_any (t : TrainD) (e : Nat) (la : Option Addr) (lc : Nat) (s : Nat → Int) (sa : Option Addr) (sc : Nat) (w : World) (he : e < t.nl) (hR : RightT t) (hs0 : 0 ≤ s e) (hs1 : s e ≤ 1000000)
    (hL : IsLegs 0 w.heap.size w la t.nl t.leg) (hI : IsInts 0 w.heap.size w sa (e + 1) s) :
    Calls Tryz.prog 56 #[.agg #[.int .i64 t.frm, .int .i64 t.ready, .int .i64 t.due, .int .i64 t.weight, .slice la t.nl lc], .slice sa ((e + 1 : Nat)) sc] w fun x w' => x = .returned (.int .i64 (s e + (t.leg e).run)) ∧ Below w.heap.size w w' := by
  have hn := hR.nl
  obtain ⟨l0, l1, l2, l3⟩ := hR.leg e he
  obtain ⟨b, off, rfl, _, hb, c0, c1, c2⟩ := hL e he
  obtain ⟨bi, oi, rfl, _, hbi, q0⟩ := hI e (by omega)
  have he0 : (0 : Int) ≤ (e : Int) := by omega
  have he1 : (e : Int) < (e : Int) + 1 := by omega
  have he2 : (e : Int) < ((e + 1 : Nat) : Int) := by omega
  have he3 : (e : Int) < (t.nl : Int) := by omega
  have hw1 : IntKind.i64.wrap ((e : Int) + 1 - 1) = (e : Int) := by rw [IntKind.wrap_i64]; omega
  have hw2 : IntKind.i64.wrap (e : Int) = (e : Int) := by rw [IntKind.wrap_i64]; omega
  go_enter Tryz.func56, Tryz.ntmps56
  go_wp2
  refine nameW fun W hW => ?_
  have hB : Below w.heap.size w W := hW ▸ b1 _ _
  have x4 : W.cell? ⟨w.heap.size, 4, none⟩ = some (.slice (some ⟨b, off, none⟩) t.nl lc) := by rw [hW, World.cell?_alloc_at _ _ _ _ (by simp)]; rfl
  replace c1 := cellLater hB c1
  replace q0 := cellLater hB q0
  clear hW
  go_region_held3 (fun w' => w'.cell? ⟨w.heap.size, 4, none⟩ = some (.slice (some ⟨b, off, none⟩) t.nl lc) ∧ w'.cell? ⟨b, off + e * 3 + 1, none⟩ = some (.int .i64 (t.leg e).run) ∧ w'.cell? ⟨bi, oi + e, none⟩ = some (.int .i64 (s e))) (go_keep) (fail)
  go_wp2
  go_ret
  exact ⟨ret_int (by rw [IntKind.wrap_i64]; omega), hB.drew⟩

set_option maxHeartbeats 4000000 in
theorem hasShape_no (a : Option Addr) (len cap : Nat) (g : Nat → Int) (gap : Int) (a' : Option Addr) (len' cap' : Nat) (f : Nat → TrainD) (c : Option Addr) (np nc : Nat) (w : World) (hl : len ≤ 1048576) (hl' : len' ≤ 1048576) (hml : ∀ j, j < len' → (f j).nl ≤ 1048576)
    (hI : IsInts 0 w.heap.size w a len g) (hT : IsTrains 0 w.heap.size w a' len' f) (hg : w.cell? ⟨0, 0, none⟩ = some (.iface 150 (.agg #[.pointer (some ⟨6, 57, none⟩)]))) (hF : Hid ((faultOf len g gap len' f).1 ≠ 0)) :
    Calls Tryz.prog 34 #[.agg #[.slice a len cap, .int .i64 gap, .slice a' len' cap'], .agg #[.slice c np nc]] w fun e w' => e = .returned (.bool false) ∧ Below w.heap.size w w' := by
  have hg1 := cellLater (b2 w (.cells #[.slice a len cap, .int .i64 gap, .slice a' len' cap'] 26) (.cells #[.slice c np nc] 34)) hg
  go_enter Tryz.func34, Tryz.ntmps34
  go_wp2_with (go_at_call 21; refine (isRight_no _ _ _ g _ _ _ _ f _ hl hl' hml (hI.grow (b2 _ _ _)) (hT.grow (b2 _ _ _)) hg1 hF.out).mono ?_; rintro e w2 ⟨rfl, hB2⟩)
  go_ret
  exact ⟨rfl, Below.join (b2 _ _ _) (Nat.le_refl _) hB2⟩

set_option maxHeartbeats 4000000 in
theorem hasShape_yes (a : Option Addr) (len cap : Nat) (g : Nat → Int) (gap : Int) (a' : Option Addr) (len' cap' : Nat) (f : Nat → TrainD) (c : Option Addr) (np nc : Nat) (P : Nat → RowD) (w : World)
    (hl : len ≤ 1048576) (hl' : len' ≤ 1048576) (hp : np ≤ 1048576) (hml : ∀ j, j < len' → (f j).nl ≤ 1048576) (hmp : ∀ j, j < np → (P j).n ≤ 1048576) (hI : IsInts 0 w.heap.size w a len g) (hT : IsTrains 0 w.heap.size w a' len' f) (hP : IsRows 0 w.heap.size w c np P)
    (hg : w.cell? ⟨0, 0, none⟩ = some (.iface 150 (.agg #[.pointer (some ⟨6, 57, none⟩)]))) (hF : Hid (faultOf len g gap len' f = (0, 0))) :
    Calls Tryz.prog 34 #[.agg #[.slice a len cap, .int .i64 gap, .slice a' len' cap'], .agg #[.slice c np nc]] w fun e w' => e = .returned (.bool (shapeB len' f np P)) ∧ Below w.heap.size w w' := by
  have hg1 := cellLater (b2 w (.cells #[.slice a len cap, .int .i64 gap, .slice a' len' cap'] 26) (.cells #[.slice c np nc] 34)) hg
  obtain ⟨y0, y1, y2, u0⟩ := box2 w a len cap gap a' len' cap' c np nc 26 34
  by_cases hnp : np = len'
  · subst hnp
    go_enter Tryz.func34, Tryz.ntmps34
    go_wp2_with (go_at_call 21; refine (isRight_yes _ _ _ g _ _ _ _ f _ hl hl' hml (hI.grow (b2 _ _ _)) (hT.grow (b2 _ _ _)) hg1 hF).mono ?_; rintro e W ⟨rfl, hB2⟩; have hB := Below.join (b2 w _ _) (Nat.le_refl _) hB2; have x2 := cellLater hB2 y2; have z0 := cellLater hB2 u0; clear y0 y1 y2 u0)
    clear z0
    go_loop [24] (fun i => ∃ (m : Nat), m ≤ np ∧ i = .int .i64 m ∧ (∀ j, j < m → (P j).n = (f j).nl ∧ ∀ k, k < (P j).n → inB ((P j).s k) 0 1000000 = true)) (fun i => np - (intOf i).toNat)
    case atStart => exact ⟨0, Nat.zero_le _, rfl, fun _ h => by omega⟩
    case round =>
      obtain ⟨m, hm, rfl, hall⟩ := hrel
      by_cases hlt : m < np
      · obtain ⟨b, off, la, lc, rfl, _, hb, t0, t1, t2, t3, t4, hlg, _⟩ := (hT.below hB (Nat.le_refl _)) m hlt
        obtain ⟨bp, op, lp, lpc, rfl, _, hbp, p0, hin, _⟩ := (hP.below hB (Nat.le_refl _)) m hlt
        have hm1 := hml m hlt
        have hm2 := hmp m hlt
        by_cases hne : (P m).n = (f m).nl
        · have hne' : Hid ((P m).n = (f m).nl) := hne
          rw [hne] at p0 hin
          clear hne
          go_wp2
          go_loop [41] (fun i => ∃ (k : Nat), k ≤ (f m).nl ∧ i = .int .i64 k ∧ (∀ j, j < k → inB ((P m).s j) 0 1000000 = true)) (fun i => (f m).nl - (intOf i).toNat)
          case atStart => exact ⟨0, Nat.zero_le _, rfl, fun _ h => by omega⟩
          case round =>
            obtain ⟨k, hk, rfl, hall2⟩ := hrel
            by_cases hlt2 : k < (f m).nl
            · obtain ⟨bi, oi, rfl, _, hbi, q0⟩ := hin k hlt2
              cases e0 : inB ((P m).s k) 0 1000000
              · go_wp2_with (go_at_call 74; refine (within_any _ _ _ _).mono ?_; rintro e w' ⟨rfl, rfl⟩)
                go_ret
                exact ⟨by rw [shapeB_at hlt (by rw [hne'.out]; exact hlt2) e0]; rfl, hB⟩
              · go_wp2_with (go_at_call 74; refine (within_any _ _ _ _).mono ?_; rintro e w' ⟨rfl, rfl⟩)
                go_round
                case rel => exact ⟨k + 1, by omega, by go_num, fun j hj => (by by_cases e : j = k; (· subst e; exact e0); (· exact hall2 j (by omega)))⟩
                case measure => simp [intOf]; omega
            · obtain rfl : k = (f m).nl := by omega
              go_wp2
              go_round
              case rel => exact ⟨m + 1, by omega, by go_num, fun j hj => (by by_cases e : j = m; (· subst e; exact ⟨hne'.out, fun k hk => hall2 k (by rw [← hne'.out]; exact hk)⟩); (· exact hall j (by omega)))⟩
              case measure => simp [intOf]; omega
        · have hne' : (((P m).n : Int) == ((f m).nl : Int)) = false := by simp; omega
          go_wp2
          go_ret
          exact ⟨by rw [shapeB_row hlt hne]; rfl, hB⟩
      · obtain rfl : m = np := by omega
        go_wp2
        go_ret
        exact ⟨by rw [show shapeB m f m P = true from decide_eq_true ⟨rfl, hall⟩]; rfl, hB⟩
  · have hne' : ((np : Int) == (len' : Int)) = false := by simp; omega
    go_enter Tryz.func34, Tryz.ntmps34
    go_wp2_with (go_at_call 21; refine (isRight_yes _ _ _ g _ _ _ _ f _ hl hl' hml (hI.grow (b2 _ _ _)) (hT.grow (b2 _ _ _)) hg1 hF).mono ?_; rintro e W ⟨rfl, hB2⟩; have hB := Below.join (b2 w _ _) (Nat.le_refl _) hB2; have x2 := cellLater hB2 y2; have z0 := cellLater hB2 u0; clear y0 y1 y2 u0)
    go_ret
    exact ⟨by rw [shapeB_len hnp]; rfl, hB⟩
end Go.Proofs.YtgdljgjamafpiaaGreatDoor

namespace Go.Proofs.YtgdljgjamafpiaaGreatDoor
open Go.RowKit

theorem below_set4 {w W : World} {B : Nat} (h : Below B w W) {b : Nat} (hb : B ≤ b) (x0 x1 x2 x3 : Value) : Below B w ((((W.setCell ⟨b, 0, none⟩ x0).setCell ⟨b, 1, none⟩ x1).setCell ⟨b, 2, none⟩ x2).setCell ⟨b, 3, none⟩ x3) :=
  (((h.setCell (p := ⟨b, 0, none⟩) hb _).setCell (p := ⟨b, 1, none⟩) hb _).setCell (p := ⟨b, 2, none⟩) hb _).setCell (p := ⟨b, 3, none⟩) hb _
theorem below_drewN {B : Nat} {w W : World} (h : Below B w W) (n : Nat) : Below B w (W.drewN n) := ⟨h.os, h.tape, h.output, h.size, h.block⟩
end Go.Proofs.YtgdljgjamafpiaaGreatDoor

namespace Go.Proofs.YtgdljgjamafpiaaGreatDoor
open Go.RowKit

section
variable (a : Option Addr) (len cap : Nat) (g : Nat → Int) (gap : Int) (a' : Option Addr) (np cap' : Nat) (f : Nat → TrainD) (w : World) (hl : len ≤ 1048576) (hl' : np ≤ 1048576) (hml : ∀ j, j < np → (f j).nl ≤ 1048576)
  (hI : IsInts 0 w.heap.size w a len g) (hT : IsTrains 0 w.heap.size w a' np f) (hg : w.cell? ⟨0, 0, none⟩ = some (.iface 150 (.agg #[.pointer (some ⟨6, 57, none⟩)]))) (hF : Hid ((faultOf len g gap np f).1 ≠ 0))
include hl hl' hml hI hT hg hF
set_option maxHeartbeats 2000000 in
theorem wrongLeast : Calls Tryz.prog 11 #[.agg #[.slice a len cap, .int .i64 gap, .slice a' np cap']] w fun e w' => e = .returned (.int .i64 (-1)) ∧ Below w.heap.size w w' := by
  have hg1 := cellLater (b1 w (.cells #[.slice a len cap, .int .i64 gap, .slice a' np cap'] 26)) hg
  go_enter Tryz.func11, Tryz.ntmps11
  go_wp2_with (go_at_call 21; refine (isRight_no _ _ _ g _ _ _ _ f _ hl hl' hml (hI.grow (b1 _ _)) (hT.grow (b1 _ _)) hg1 hF.out).mono ?_; rintro e w2 ⟨rfl, hB2⟩)
  go_ret
  exact ⟨rfl, Below.join (b1 w _) (Nat.le_refl _) hB2⟩
set_option maxHeartbeats 4000000 in
theorem wrongPlace : Calls Tryz.prog 10 #[.agg #[.slice a len cap, .int .i64 gap, .slice a' np cap'], .slice none 0 0] w fun e w' => e = .returned (.agg #[.int .i64 1, .int .i64 0, .slice none 0 0]) ∧ Below w.heap.size w w' := by
  have hN := b2 w (.cells #[.slice a len cap, .int .i64 gap, .slice a' np cap'] 26) (.cells #[.int .i64 0, .int .i64 0, .slice none 0 0] 39)
  have hRm : Room (w.heap.size + 1) 3 ((w.alloc (.cells #[.slice a len cap, .int .i64 gap, .slice a' np cap'] 26)).alloc (.cells #[.int .i64 0, .int .i64 0, .slice none 0 0] 39)) := by
    have h := Room.lit (w.alloc (.cells #[.slice a len cap, .int .i64 gap, .slice a' np cap'] 26)) #[.int .i64 0, .int .i64 0, .slice none 0 0] 39 3 (Nat.le_refl _)
    rwa [World.size_alloc] at h
  have lR : w.heap.size + 1 < ((w.alloc (.cells #[.slice a len cap, .int .i64 gap, .slice a' np cap'] 26)).alloc (.cells #[.int .i64 0, .int .i64 0, .slice none 0 0] 39)).heap.size := by simp
  have hok := isRight_no a len cap g gap a' np cap' f _ hl hl' hml (hI.grow hN) (hT.grow hN) (cellLater hN hg) hF.out
  go_enter Tryz.func10, Tryz.ntmps10
  go_wp2_with (go_at_call 21; refine hok.mono ?_; rintro _ w2 ⟨rfl, hB2⟩; obtain ⟨v0, m0, z0⟩ := (hRm.below hB2 lR) 0 (by omega); obtain ⟨v1, m1, z1⟩ := (hRm.below hB2 lR) 1 (by omega); obtain ⟨v2, m2, z2⟩ := (hRm.below hB2 lR) 2 (by omega))
  refine bodyPost_ret (v := .agg #[.int .i64 1, .int .i64 0, .slice none 0 0]) (by simp [results, Tryz.results10, go_sem, m0, m1, m2]) rfl ⟨rfl, ?_⟩
  exact (((Below.join hN (Nat.le_refl _) hB2).setCell (p := ⟨w.heap.size + 1, _, none⟩) (by show w.heap.size ≤ w.heap.size + 1; omega) _).setCell (p := ⟨w.heap.size + 1, _, none⟩) (by show w.heap.size ≤ w.heap.size + 1; omega) _).setCell (p := ⟨w.heap.size + 1, _, none⟩) (by show w.heap.size ≤ w.heap.size + 1; omega) _
set_option maxHeartbeats 4000000 in
theorem wrongCheck (c : Option Addr) (n nc : Nat) : Calls Tryz.prog 12 #[.agg #[.slice a len cap, .int .i64 gap, .slice a' np cap'], .agg #[.slice c n nc]] w fun e w' => e = .returned (.agg #[.int .i64 1, .int .i64 0, .int .i64 0, .int .i64 0]) ∧ Below w.heap.size w w' := by
  have hN := b3 w (.cells #[.slice a len cap, .int .i64 gap, .slice a' np cap'] 26) (.cells #[.slice c n nc] 34) (.cells #[.int .i64 0, .int .i64 0, .int .i64 0, .int .i64 0] 43)
  have hRm : Room (w.heap.size + 1 + 1) 4 (((w.alloc (.cells #[.slice a len cap, .int .i64 gap, .slice a' np cap'] 26)).alloc (.cells #[.slice c n nc] 34)).alloc (.cells #[.int .i64 0, .int .i64 0, .int .i64 0, .int .i64 0] 43)) := by
    have h := Room.lit ((w.alloc (.cells #[.slice a len cap, .int .i64 gap, .slice a' np cap'] 26)).alloc (.cells #[.slice c n nc] 34)) #[.int .i64 0, .int .i64 0, .int .i64 0, .int .i64 0] 43 4 (Nat.le_refl _)
    rwa [World.size_alloc, World.size_alloc] at h
  have lR : w.heap.size + 1 + 1 < (((w.alloc (.cells #[.slice a len cap, .int .i64 gap, .slice a' np cap'] 26)).alloc (.cells #[.slice c n nc] 34)).alloc (.cells #[.int .i64 0, .int .i64 0, .int .i64 0, .int .i64 0] 43)).heap.size := by simp
  have hok := hasShape_no a len cap g gap a' np cap' f c n nc _ hl hl' hml (hI.grow hN) (hT.grow hN) (cellLater hN hg) hF
  go_enter Tryz.func12, Tryz.ntmps12
  go_wp2_with (go_at_call 34; refine hok.mono ?_; rintro _ w2 ⟨rfl, hB2⟩; obtain ⟨v0, m0, z0⟩ := (hRm.below hB2 lR) 0 (by omega); obtain ⟨v1, m1, z1⟩ := (hRm.below hB2 lR) 1 (by omega); obtain ⟨v2, m2, z2⟩ := (hRm.below hB2 lR) 2 (by omega); obtain ⟨v3, m3, z3⟩ := (hRm.below hB2 lR) 3 (by omega))
  refine bodyPost_ret (v := .agg #[.int .i64 1, .int .i64 0, .int .i64 0, .int .i64 0]) (by simp [results, Tryz.results12, go_sem, m0, m1, m2, m3]) rfl ⟨rfl, ?_⟩
  exact below_set4 (Below.join hN (Nat.le_refl _) hB2) (by omega) _ _ _ _
set_option maxHeartbeats 4000000 in
theorem wrongSolve : Calls Tryz.prog 9 #[.agg #[.slice a len cap, .int .i64 gap, .slice a' np cap']] w fun e w' => e = .returned (.agg #[.bool false, .int .i64 0, .slice none 0 0]) ∧ Below w.heap.size w w' := by
  have hN := b2 w (.cells #[.slice a len cap, .int .i64 gap, .slice a' np cap'] 26) (.cells #[.bool false, .int .i64 0, .slice none 0 0] 36)
  have hRm : Room (w.heap.size + 1) 3 ((w.alloc (.cells #[.slice a len cap, .int .i64 gap, .slice a' np cap'] 26)).alloc (.cells #[.bool false, .int .i64 0, .slice none 0 0] 36)) := by
    have h := Room.lit (w.alloc (.cells #[.slice a len cap, .int .i64 gap, .slice a' np cap'] 26)) #[.bool false, .int .i64 0, .slice none 0 0] 36 3 (Nat.le_refl _)
    rwa [World.size_alloc] at h
  have lR : w.heap.size + 1 < ((w.alloc (.cells #[.slice a len cap, .int .i64 gap, .slice a' np cap'] 26)).alloc (.cells #[.bool false, .int .i64 0, .slice none 0 0] 36)).heap.size := by simp
  have hok := isRight_no a len cap g gap a' np cap' f _ hl hl' hml (hI.grow hN) (hT.grow hN) (cellLater hN hg) hF.out
  go_enter Tryz.func9, Tryz.ntmps9
  go_wp2_with (go_at_call 21; refine hok.mono ?_; rintro _ w2 ⟨rfl, hB2⟩; obtain ⟨v0, m0, z0⟩ := (hRm.below hB2 lR) 0 (by omega); obtain ⟨v1, m1, z1⟩ := (hRm.below hB2 lR) 1 (by omega); obtain ⟨v2, m2, z2⟩ := (hRm.below hB2 lR) 2 (by omega))
  refine bodyPost_ret (v := .agg #[.bool false, .int .i64 0, .slice none 0 0]) (by simp [results, Tryz.results9, go_sem, m0, m1, m2]) rfl ⟨rfl, ?_⟩
  exact (((Below.join hN (Nat.le_refl _) hB2).setCell (p := ⟨w.heap.size + 1, _, none⟩) (by show w.heap.size ≤ w.heap.size + 1; omega) _).setCell (p := ⟨w.heap.size + 1, _, none⟩) (by show w.heap.size ≤ w.heap.size + 1; omega) _).setCell (p := ⟨w.heap.size + 1, _, none⟩) (by show w.heap.size ≤ w.heap.size + 1; omega) _
end
end Go.Proofs.YtgdljgjamafpiaaGreatDoor
