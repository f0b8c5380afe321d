/-
  The program's LineOk: what it answers.
-/
import Derived.Test.YtelickcfodcmaaaGreatDoorImplE
import Derived.Test.YtelickcfodcmaaaGreatDoorAs
namespace Go.Proofs.YtelickcfodcmaaaGreatDoor
open Go.RowKit

theorem lineError_val (a : Option Addr) (len cap : Nat) (g : Nat → Int) (gap : Int) (a' : Option Addr) (len' cap' : Nat) (f : Nat → TrainD) (w : World) (hl : len ≤ 1048576) (hl' : len' ≤ 1048576) (hml : ∀ j, j < len' → (f j).nl ≤ 1048576)
    (hI : IsInts 0 w.heap.size w a len g) (hT : IsTrains 0 w.heap.size w a' len' f) (v : Value) (hv : errP (faultOf len g gap len' f) = v) :
    Calls Tryz.prog 106 #[.agg #[.slice a len cap, .int .i64 gap, .slice a' len' cap']] w fun e w' => e = .returned v ∧ Below w.heap.size w w' := by
  subst hv; exact lineError_any a len cap g gap a' len' cap' f w hl hl' hml hI hT

set_option maxHeartbeats 2000000 in
theorem implOk_zero (a : Option Addr) (len cap : Nat) (g : Nat → Int) (gap : Int) (a' : Option Addr) (len' cap' : Nat) (f : Nat → TrainD) (w : World) (hl : len ≤ 1048576) (hl' : len' ≤ 1048576) (hml : ∀ j, j < len' → (f j).nl ≤ 1048576)
    (hI : IsInts 0 w.heap.size w a len g) (hT : IsTrains 0 w.heap.size w a' len' f) (hv : Hid (errP (faultOf len g gap len' f) = .nilIface)) :
    Calls Tryz.prog 68 #[.agg #[.slice a len cap, .int .i64 gap, .slice a' len' cap']] w fun e w' => e = .returned (.agg #[.int .i64 0, .int .i64 0]) ∧ Below w.heap.size w w' := by
  go_enter Tryz.func68, Tryz.ntmps68
  go_wp2_with (first | (go_at_call 106; refine (lineError_val _ _ _ g _ _ _ _ f _ hl hl' hml (hI.grow (b3 _ _ _ _)) (hT.grow (b3 _ _ _ _)) _ hv.out).mono ?_; rintro e w2 ⟨rfl, hB2⟩; obtain ⟨hc, hf⟩ := bcell hB2; have hBx := Below.join (b3 w _ _ _) (Nat.le_refl _) hB2; have hz : w.heap.size + 2 < w2.heap.size := (by have := hB2.size; simp at this; omega)) | (go_at_call 105; refine (as_nil _ _).mono ?_; rintro e w3 ⟨rfl, rfl⟩))
  exact bodyPost_ret (v := .agg #[.int .i64 0, .int .i64 0]) (by simp [results, Tryz.results68, go_sem, hc]) rfl ⟨rfl, (hBx.setCell (p := ⟨w.heap.size + 1, _, none⟩) (by simp) _).setCell (p := ⟨w.heap.size + 1, _, none⟩) (by simp) _⟩

/-- errors.As, as its caller sees it -/
theorem as_set (x y : Int) (t : Nat) (old0 old1 : Value) (w : World) (hg : w.cell? ⟨0, 0, none⟩ = some (.iface 234 (.agg #[.pointer (some ⟨1, 165, none⟩)]))) (ht0 : w.cell? ⟨t, 0, none⟩ = some old0) (ht1 : w.cell? ⟨t, 1, none⟩ = some old1) (hf0 : w.frozen? ⟨t, 0, none⟩ = false) (hf1 : w.frozen? ⟨t, 1, none⟩ = false) :
    Calls Tryz.prog 105 #[.iface 162 (.agg #[.int .i64 x, .int .i64 y]), .iface 167 (.pointer (some ⟨t, 0, none⟩))] w fun ev w' => ev = .returned (.bool true) ∧ w'.cell? ⟨t, 0, none⟩ = some (.int .i64 x) ∧ w'.cell? ⟨t, 1, none⟩ = some (.int .i64 y) ∧ Below t w w' := by
  refine (as_hit x y t old0 old1 w hg ht0 ht1 hf0 hf1).mono ?_
  rintro e w' ⟨he, hw⟩
  have htl : t < w.heap.size := ltCell (a := ⟨t, 0, none⟩) ht0
  obtain ⟨W4, hW4, hB4⟩ : ∃ W4, (((w.alloc (.cells #[.pointer (some ⟨t, 0, none⟩)] 167)).alloc (.cells #[.pointer (some ⟨1, 167, none⟩), .pointer (some ⟨w.heap.size, 0, none⟩), .int .u64 150] 208)).alloc (.cells #[.pointer (some ⟨1, 167, none⟩), .pointer (some ⟨w.heap.size, 0, none⟩), .int .u64 150] 208)).alloc (.cells #[.int .i64 x, .int .i64 y] 162) = W4 ∧ Below w.heap.size w W4 := ⟨_, rfl, (b3 _ _ _ _).alloc (by simp; omega) _⟩
  rw [hW4] at hw
  subst hw
  have c0 := cellLater hB4 ht0
  have c1 := cellLater hB4 ht1
  obtain ⟨v1, hv1⟩ := cell?_setCell_some (w := W4) (p := ⟨t, 0, none⟩) (x := .int .i64 x) c1
  refine ⟨he, ?_, World.cell?_setCell_same _ _ _ hv1, ((hB4.mono (Nat.le_of_lt htl)).setCell (p := ⟨t, _, none⟩) (Nat.le_refl _) _).setCell (p := ⟨t, _, none⟩) (Nat.le_refl _) _⟩
  rw [World.cell?_setCell_other _ _ _ _ (by intro e; cases e)]
  exact World.cell?_setCell_same _ _ _ c0

theorem facts3 {w w2 : World} {o : Obj} {x0 x1 y0 y1 : Value} {t t' : TypeId} (h : Below (((w.alloc o).alloc (.cells #[x0, x1] t)).alloc (.cells #[y0, y1] t')).heap.size (((w.alloc o).alloc (.cells #[x0, x1] t)).alloc (.cells #[y0, y1] t')) w2) :
    (w2.cell? ⟨w.heap.size + 1, 0, none⟩ = some x0 ∧ w2.cell? ⟨w.heap.size + 1, 1, none⟩ = some x1 ∧ w2.frozen? ⟨w.heap.size + 1, 0, none⟩ = false ∧ w2.frozen? ⟨w.heap.size + 1, 1, none⟩ = false) ∧
    (w2.cell? ⟨w.heap.size + 1 + 1, 0, none⟩ = some y0 ∧ w2.cell? ⟨w.heap.size + 1 + 1, 1, none⟩ = some y1 ∧ w2.frozen? ⟨w.heap.size + 1 + 1, 0, none⟩ = false ∧ w2.frozen? ⟨w.heap.size + 1 + 1, 1, none⟩ = false) := by
  have e1 : w.heap.size + 1 = (w.alloc o).heap.size := by simp
  have e2 : w.heap.size + 1 + 1 = ((w.alloc o).alloc (.cells #[x0, x1] t)).heap.size := by simp
  have l1 : w.heap.size + 1 < (((w.alloc o).alloc (.cells #[x0, x1] t)).alloc (.cells #[y0, y1] t')).heap.size := by simp
  have l2 : w.heap.size + 1 + 1 < (((w.alloc o).alloc (.cells #[x0, x1] t)).alloc (.cells #[y0, y1] t')).heap.size := by simp
  have l3 : w.heap.size + 1 < ((w.alloc o).alloc (.cells #[x0, x1] t)).heap.size := by simp
  refine ⟨⟨?_, ?_, ?_, ?_⟩, ?_, ?_, ?_, ?_⟩
  · rw [h.cell (p := ⟨w.heap.size + 1, 0, none⟩) l1, World.cell?_alloc_lt _ _ ⟨w.heap.size + 1, 0, none⟩ l3, World.cell?_alloc_at _ _ _ _ e1]; rfl
  · rw [h.cell (p := ⟨w.heap.size + 1, 1, none⟩) l1, World.cell?_alloc_lt _ _ ⟨w.heap.size + 1, 1, none⟩ l3, World.cell?_alloc_at _ _ _ _ e1]; rfl
  · rw [h.frozen (p := ⟨w.heap.size + 1, 0, none⟩) l1, World.frozen?_alloc_old _ _ ⟨w.heap.size + 1, 0, none⟩ (Nat.ne_of_lt l3), World.frozen?_alloc_at _ _ _ _ e1]
  · rw [h.frozen (p := ⟨w.heap.size + 1, 1, none⟩) l1, World.frozen?_alloc_old _ _ ⟨w.heap.size + 1, 1, none⟩ (Nat.ne_of_lt l3), World.frozen?_alloc_at _ _ _ _ e1]
  · rw [h.cell (p := ⟨w.heap.size + 1 + 1, 0, none⟩) l2, World.cell?_alloc_at _ _ _ _ e2]; rfl
  · rw [h.cell (p := ⟨w.heap.size + 1 + 1, 1, none⟩) l2, World.cell?_alloc_at _ _ _ _ e2]; rfl
  · rw [h.frozen (p := ⟨w.heap.size + 1 + 1, 0, none⟩) l2, World.frozen?_alloc_at _ _ _ _ e2]
  · rw [h.frozen (p := ⟨w.heap.size + 1 + 1, 1, none⟩) l2, World.frozen?_alloc_at _ _ _ _ e2]

set_option maxHeartbeats 4000000 in
theorem implOk_err (a : Option Addr) (len cap : Nat) (g : Nat → Int) (gap : Int) (a' : Option Addr) (len' cap' : Nat) (f : Nat → TrainD) (w : World) (hl : len ≤ 1048576) (hl' : len' ≤ 1048576) (hml : ∀ j, j < len' → (f j).nl ≤ 1048576)
    (hI : IsInts 0 w.heap.size w a len g) (hT : IsTrains 0 w.heap.size w a' len' f) (x y : Int) (hv : Hid (errP (faultOf len g gap len' f) = .iface 162 (.agg #[.int .i64 x, .int .i64 y])))
    (hg : w.cell? ⟨0, 0, none⟩ = some (.iface 234 (.agg #[.pointer (some ⟨1, 165, none⟩)]))) :
    Calls Tryz.prog 68 #[.agg #[.slice a len cap, .int .i64 gap, .slice a' len' cap']] w fun e w' => e = .returned (.agg #[.int .i64 x, .int .i64 y]) ∧ Below w.heap.size w w' := by
  go_enter Tryz.func68, Tryz.ntmps68
  go_wp2_with (first | (go_at_call 106; refine (lineError_val _ _ _ g _ _ _ _ f _ hl hl' hml (hI.grow (b3 _ _ _ _)) (hT.grow (b3 _ _ _ _)) _ hv.out).mono ?_; rintro e w2 ⟨rfl, hB2⟩; obtain ⟨⟨r0, r1, z0, z1⟩, u0, u1, u2, u3⟩ := facts3 hB2; have hBx := Below.join (b3 w _ _ _) (Nat.le_refl _) hB2; have hg2 := cellLater hBx hg) | (go_at_call 105; refine (as_set x y _ _ _ _ hg2 u0 u1 u2 u3).mono ?_; rintro e w3 ⟨rfl, k0, k1, hB3⟩; have r0' := (hB3.cell (p := ⟨w.heap.size + 1, 0, none⟩) (Nat.lt_succ_self _)).trans r0; have r1' := (hB3.cell (p := ⟨w.heap.size + 1, 1, none⟩) (Nat.lt_succ_self _)).trans r1; have z0' := (hB3.frozen (p := ⟨w.heap.size + 1, 0, none⟩) (Nat.lt_succ_self _)).trans z0; have z1' := (hB3.frozen (p := ⟨w.heap.size + 1, 1, none⟩) (Nat.lt_succ_self _)).trans z1))
  refine bodyPost_ret (v := .agg #[.int .i64 x, .int .i64 y]) (by simp [results, Tryz.results68, go_sem, r0', r1']) rfl ⟨rfl, ?_⟩
  exact ((hBx.trans (hB3.mono (by omega))).setCell (p := ⟨w.heap.size + 1, _, none⟩) (by simp) _).setCell (p := ⟨w.heap.size + 1, _, none⟩) (by simp) _

/-- the program's LineOk -/
theorem implOk_any (a : Option Addr) (len cap : Nat) (g : Nat → Int) (gap : Int) (a' : Option Addr) (len' cap' : Nat) (f : Nat → TrainD) (w : World) (hl : len ≤ 1048576) (hl' : len' ≤ 1048576) (hml : ∀ j, j < len' → (f j).nl ≤ 1048576)
    (hI : IsInts 0 w.heap.size w a len g) (hT : IsTrains 0 w.heap.size w a' len' f) (hg : w.cell? ⟨0, 0, none⟩ = some (.iface 234 (.agg #[.pointer (some ⟨1, 165, none⟩)]))) :
    Calls Tryz.prog 68 #[.agg #[.slice a len cap, .int .i64 gap, .slice a' len' cap']] w fun e w' => e = .returned (.agg #[.int .i64 (faultOf len g gap len' f).1, .int .i64 (faultOf len g gap len' f).2]) ∧ Below w.heap.size w w' := by
  by_cases h : (faultOf len g gap len' f).1 = 0
  · have e := faultOf_snd h
    rw [e]
    exact implOk_zero a len cap g gap a' len' cap' f w hl hl' hml hI hT (show errP (faultOf len g gap len' f) = .nilIface by rw [e]; rfl)
  · exact implOk_err a len cap g gap a' len' cap' f w hl hl' hml hI hT _ _ (show errP (faultOf len g gap len' f) = _ by unfold errP; rw [if_neg h]) hg
end Go.Proofs.YtelickcfodcmaaaGreatDoor
