/-
  The program's Check, at every argument.
-/
import Derived.Test.YtnkcolffjkjclabDoorPlainE
namespace Go.Proofs.YtnkcolffjkjclabDoor
open Go.RowKit

theorem clashOf_no {nt : Nat} {g : Nat → Int} {gap : Int} {ntr : Nat} {f : Nat → TrainD} {np : Nat} {P : Nat → RowD} (h : ¬ ((faultOf nt g gap ntr f).1 = 0 ∧ shapeB ntr f np P = true)) : clashOf nt g gap ntr f np P = (1, 0, 0, 0) := by
  unfold clashOf; rw [if_neg h]

set_option maxRecDepth 20000 in
set_option maxHeartbeats 4000000 in
theorem implCheck_line (a : Option Addr) (len cap : Nat) (g : Nat → Int) (gap : Int) (a' : Option Addr) (len' cap' : Nat) (f : Nat → TrainD) (c : Option Addr) (np nc : Nat) (w : World) (hl : len ≤ 1048576) (hl' : len' ≤ 1048576) (hml : ∀ j, j < len' → (f j).nl ≤ 1048576)
    (hI : IsInts 0 w.heap.size w a len g) (hT : IsTrains 0 w.heap.size w a' len' f) (hg : w.cell? ⟨0, 0, none⟩ = some (.iface 120 (.agg #[.pointer (some ⟨1, 101, none⟩)]))) (hF : Hid ((faultOf len g gap len' f).1 ≠ 0)) :
    Calls Tryd.prog 11 #[.agg #[.slice a len cap, .int .i64 gap, .slice a' len' cap'], .agg #[.slice c np nc]] w fun e w' => e = .returned (.agg #[.int .i64 1, .int .i64 0, .int .i64 0, .int .i64 0]) ∧ Below w.heap.size w w' := by
  have hX := Boxes.new w a len cap gap a' len' cap' c np nc 36 38 32
  have hg1 := cellLater (b3 w (.cells #[.slice a len cap, .int .i64 gap, .slice a' len' cap'] 36) (.cells #[.slice c np nc] 38) (.cells #[.int .i64 0, .int .i64 0, .int .i64 0, .int .i64 0] 32)) hg
  go_enter Tryd.func11, Tryd.ntmps11
  go_wp2_with (go_at_call 30; refine (hasShape_no _ _ _ g _ _ _ _ f _ _ _ _ hl hl' hml (hI.grow (b3 _ _ _ _)) (hT.grow (b3 _ _ _ _)) hg1 hF).mono ?_; rintro _ w2 ⟨rfl, hB2⟩; have hB := Below.join (b3 w _ _ _) (Nat.le_refl _) hB2; replace hX := hX.later hB2; have r0 := hX.r0; have r1 := hX.r1; have r2 := hX.r2; have r3 := hX.r3; have z0 := hX.z0; have z1 := hX.z1; have z2 := hX.z2; have z3 := hX.z3)
  refine bodyPost_ret (v := .agg #[.int .i64 1, .int .i64 0, .int .i64 0, .int .i64 0]) (by simp [results, Tryd.results11, go_sem, r0, r1, r2, r3]) rfl ⟨rfl, ?_⟩
  exact below_set4 hB (by omega) _ _ _ _

set_option maxRecDepth 20000 in
set_option maxHeartbeats 4000000 in
theorem implCheck_shape (a : Option Addr) (len cap : Nat) (g : Nat → Int) (gap : Int) (a' : Option Addr) (len' cap' : Nat) (f : Nat → TrainD) (c : Option Addr) (np nc : Nat) (P : Nat → RowD) (w : World) (hl : len ≤ 1048576) (hl' : len' ≤ 1048576) (hml : ∀ j, j < len' → (f j).nl ≤ 1048576) (hp : np ≤ 1048576) (hmp : ∀ j, j < np → (P j).n ≤ 1048576)
    (hI : IsInts 0 w.heap.size w a len g) (hT : IsTrains 0 w.heap.size w a' len' f) (hP : IsRows 0 w.heap.size w c np P) (hg : w.cell? ⟨0, 0, none⟩ = some (.iface 120 (.agg #[.pointer (some ⟨1, 101, none⟩)]))) (hF : Hid (faultOf len g gap len' f = (0, 0))) (hS : shapeB len' f np P = false) :
    Calls Tryd.prog 11 #[.agg #[.slice a len cap, .int .i64 gap, .slice a' len' cap'], .agg #[.slice c np nc]] w fun e w' => e = .returned (.agg #[.int .i64 1, .int .i64 0, .int .i64 0, .int .i64 0]) ∧ Below w.heap.size w w' := by
  have hX := Boxes.new w a len cap gap a' len' cap' c np nc 36 38 32
  have hg1 := cellLater (b3 w (.cells #[.slice a len cap, .int .i64 gap, .slice a' len' cap'] 36) (.cells #[.slice c np nc] 38) (.cells #[.int .i64 0, .int .i64 0, .int .i64 0, .int .i64 0] 32)) hg
  go_enter Tryd.func11, Tryd.ntmps11
  go_wp2_with (go_at_call 30; refine (hasShape_yes _ _ _ g _ _ _ _ f _ _ _ P _ hl hl' hp hml hmp (hI.grow (b3 _ _ _ _)) (hT.grow (b3 _ _ _ _)) (hP.grow (b3 _ _ _ _)) hg1 hF).mono ?_; rw [hS]; rintro _ w2 ⟨rfl, hB2⟩; have hB := Below.join (b3 w _ _ _) (Nat.le_refl _) hB2; replace hX := hX.later hB2; have r0 := hX.r0; have r1 := hX.r1; have r2 := hX.r2; have r3 := hX.r3; have z0 := hX.z0; have z1 := hX.z1; have z2 := hX.z2; have z3 := hX.z3)
  refine bodyPost_ret (v := .agg #[.int .i64 1, .int .i64 0, .int .i64 0, .int .i64 0]) (by simp [results, Tryd.results11, go_sem, r0, r1, r2, r3]) rfl ⟨rfl, ?_⟩
  exact below_set4 hB (by omega) _ _ _ _

/-- the program's Check -/
theorem implCheck_any (a : Option Addr) (len cap : Nat) (g : Nat → Int) (gap : Int) (a' : Option Addr) (len' cap' : Nat) (f : Nat → TrainD) (c : Option Addr) (np nc : Nat) (P : Nat → RowD) (w : World) (hl : len ≤ 1048576) (hl' : len' ≤ 1048576) (hml : ∀ j, j < len' → (f j).nl ≤ 1048576) (hp : np ≤ 1048576) (hmp : ∀ j, j < np → (P j).n ≤ 1048576)
    (hI : IsInts 0 w.heap.size w a len g) (hT : IsTrains 0 w.heap.size w a' len' f) (hP : IsRows 0 w.heap.size w c np P) (hC : Caps w c np) (hg : w.cell? ⟨0, 0, none⟩ = some (.iface 120 (.agg #[.pointer (some ⟨1, 101, none⟩)]))) :
    Calls Tryd.prog 11 #[.agg #[.slice a len cap, .int .i64 gap, .slice a' len' cap'], .agg #[.slice c np nc]] w fun e w' => e = .returned (clashV (clashOf len g gap len' f np P)) ∧ Below w.heap.size w w' := by
  by_cases hF : (faultOf len g gap len' f).1 = 0
  · have hF0 := faultOf_snd hF
    cases hS : shapeB len' f np P
    · rw [clashOf_no (by simp [hS])]
      exact implCheck_shape a len cap g gap a' len' cap' f c np nc P w hl hl' hml hp hmp hI hT hP hg hF0 hS
    · obtain rfl : np = len' := (rightP_of hS).np
      have h := implCheck_main a len cap g gap a' np cap' f c nc P w hl hp hml hmp hI hT hP hC hg hF0 hS
      rw [orC_clash hF0 hS] at h
      exact h
  · rw [clashOf_no (by simp [hF])]
    exact implCheck_line a len cap g gap a' len' cap' f c np nc w hl hl' hml hI hT hg hF
end Go.Proofs.YtnkcolffjkjclabDoor
