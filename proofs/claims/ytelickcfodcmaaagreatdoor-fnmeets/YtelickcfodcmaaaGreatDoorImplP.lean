/-
  The program's word on a plan's shape; when a train is at its end by a plan.
-/
import Derived.Test.YtelickcfodcmaaaGreatDoorIsRight
import Derived.Test.YtelickcfodcmaaaGreatDoorSpecQ
namespace Go.Proofs.YtelickcfodcmaaaGreatDoor
open Go.RowKit

set_option maxHeartbeats 2000000 in
theorem end_any (t : TrainD) (e : Nat) (la : Option Addr) (lc : Nat) (s : Nat → Int) (sa : Option Addr) (sc : Nat) (w : World) (he : e < t.nl) (hR : RightT t) (hs0 : 0 ≤ s e) (hs1 : s e ≤ 1000000)
    (hL : IsLegs 0 w.heap.size w la t.nl t.leg) (hI : IsInts 0 w.heap.size w sa (e + 1) s) :
    Calls Tryz.prog 39 #[.agg #[.int .i64 t.frm, .int .i64 t.ready, .int .i64 t.due, .int .i64 t.weight, .slice la t.nl lc], .slice sa ((e + 1 : Nat)) sc] w fun x w' => x = .returned (.int .i64 (s e + (t.leg e).run)) ∧ Below w.heap.size w w' := by
  have hn := hR.nl
  obtain ⟨l0, l1, l2, l3⟩ := hR.leg e he
  obtain ⟨b, off, rfl, _, hb, c0, c1, c2⟩ := hL e he
  obtain ⟨bi, oi, rfl, _, hbi, q0⟩ := hI e (by omega)
  have he0 : (0 : Int) ≤ (e : Int) := by omega
  have he1 : (e : Int) < (e : Int) + 1 := by omega
  have he2 : (e : Int) < ((e + 1 : Nat) : Int) := by omega
  have he3 : (e : Int) < (t.nl : Int) := by omega
  have hw1 : IntKind.i64.wrap ((e : Int) + 1 - 1) = (e : Int) := by rw [IntKind.wrap_i64]; omega
  have hw2 : IntKind.i64.wrap (e : Int) = (e : Int) := by rw [IntKind.wrap_i64]; omega
  go_enter Tryz.func39, Tryz.ntmps39
  go_wp2
  refine nameW fun W hW => ?_
  have hB : Below w.heap.size w W := hW ▸ b1 _ _
  have x4 : W.cell? ⟨w.heap.size, 4, none⟩ = some (.slice (some ⟨b, off, none⟩) t.nl lc) := by rw [hW, World.cell?_alloc_at _ _ _ _ (by simp)]; rfl
  replace c1 := cellLater hB c1
  replace q0 := cellLater hB q0
  clear hW
  go_region_held3 (fun w' => w'.cell? ⟨w.heap.size, 4, none⟩ = some (.slice (some ⟨b, off, none⟩) t.nl lc) ∧ w'.cell? ⟨b, off + e * 3 + 1, none⟩ = some (.int .i64 (t.leg e).run) ∧ w'.cell? ⟨bi, oi + e, none⟩ = some (.int .i64 (s e))) (go_keep) (fail)
  go_wp2
  go_ret
  exact ⟨ret_int (by rw [IntKind.wrap_i64]; omega), hB.drew⟩

set_option maxHeartbeats 4000000 in
theorem hasShape_no (a : Option Addr) (len cap : Nat) (g : Nat → Int) (gap : Int) (a' : Option Addr) (len' cap' : Nat) (f : Nat → TrainD) (c : Option Addr) (np nc : Nat) (w : World) (hl : len ≤ 1048576) (hl' : len' ≤ 1048576) (hml : ∀ j, j < len' → (f j).nl ≤ 1048576)
    (hI : IsInts 0 w.heap.size w a len g) (hT : IsTrains 0 w.heap.size w a' len' f) (hg : w.cell? ⟨0, 0, none⟩ = some (.iface 234 (.agg #[.pointer (some ⟨1, 165, none⟩)]))) (hF : Hid ((faultOf len g gap len' f).1 ≠ 0)) :
    Calls Tryz.prog 22 #[.agg #[.slice a len cap, .int .i64 gap, .slice a' len' cap'], .agg #[.slice c np nc]] w fun e w' => e = .returned (.bool false) ∧ Below w.heap.size w w' := by
  have hg1 := cellLater (b2 w (.cells #[.slice a len cap, .int .i64 gap, .slice a' len' cap'] 26) (.cells #[.slice c np nc] 30)) hg
  go_enter Tryz.func22, Tryz.ntmps22
  go_wp2_with (go_at_call 40; refine (isRight_no _ _ _ g _ _ _ _ f _ hl hl' hml (hI.grow (b2 _ _ _)) (hT.grow (b2 _ _ _)) hg1 hF.out).mono ?_; rintro e w2 ⟨rfl, hB2⟩)
  go_ret
  exact ⟨rfl, Below.join (b2 _ _ _) (Nat.le_refl _) hB2⟩

set_option maxHeartbeats 4000000 in
theorem hasShape_yes (a : Option Addr) (len cap : Nat) (g : Nat → Int) (gap : Int) (a' : Option Addr) (len' cap' : Nat) (f : Nat → TrainD) (c : Option Addr) (np nc : Nat) (P : Nat → RowD) (w : World)
    (hl : len ≤ 1048576) (hl' : len' ≤ 1048576) (hp : np ≤ 1048576) (hml : ∀ j, j < len' → (f j).nl ≤ 1048576) (hmp : ∀ j, j < np → (P j).n ≤ 1048576) (hI : IsInts 0 w.heap.size w a len g) (hT : IsTrains 0 w.heap.size w a' len' f) (hP : IsRows 0 w.heap.size w c np P)
    (hg : w.cell? ⟨0, 0, none⟩ = some (.iface 234 (.agg #[.pointer (some ⟨1, 165, none⟩)]))) (hF : Hid (faultOf len g gap len' f = (0, 0))) :
    Calls Tryz.prog 22 #[.agg #[.slice a len cap, .int .i64 gap, .slice a' len' cap'], .agg #[.slice c np nc]] w fun e w' => e = .returned (.bool (shapeB len' f np P)) ∧ Below w.heap.size w w' := by
  have hg1 := cellLater (b2 w (.cells #[.slice a len cap, .int .i64 gap, .slice a' len' cap'] 26) (.cells #[.slice c np nc] 30)) hg
  obtain ⟨y0, y1, y2, u0⟩ := box2 w a len cap gap a' len' cap' c np nc 26 30
  by_cases hnp : np = len'
  · subst hnp
    go_enter Tryz.func22, Tryz.ntmps22
    go_wp2_with (go_at_call 40; refine (isRight_yes _ _ _ g _ _ _ _ f _ hl hl' hml (hI.grow (b2 _ _ _)) (hT.grow (b2 _ _ _)) hg1 hF).mono ?_; rintro e W ⟨rfl, hB2⟩; have hB := Below.join (b2 w _ _) (Nat.le_refl _) hB2; have x2 := cellLater hB2 y2; have z0 := cellLater hB2 u0; clear y0 y1 y2 u0)
    clear z0
    go_loop [24] (fun i => ∃ (m : Nat), m ≤ np ∧ i = .int .i64 m ∧ (∀ j, j < m → (P j).n = (f j).nl ∧ ∀ k, k < (P j).n → inB ((P j).s k) 0 1000000 = true)) (fun i => np - (intOf i).toNat)
    case atStart => exact ⟨0, Nat.zero_le _, rfl, fun _ h => by omega⟩
    case round =>
      obtain ⟨m, hm, rfl, hall⟩ := hrel
      by_cases hlt : m < np
      · obtain ⟨b, off, la, lc, rfl, _, hb, t0, t1, t2, t3, t4, hlg, _⟩ := (hT.below hB (Nat.le_refl _)) m hlt
        obtain ⟨bp, op, lp, lpc, rfl, _, hbp, p0, hin, _⟩ := (hP.below hB (Nat.le_refl _)) m hlt
        have hm1 := hml m hlt
        have hm2 := hmp m hlt
        by_cases hne : (P m).n = (f m).nl
        · have hne' : Hid ((P m).n = (f m).nl) := hne
          rw [hne] at p0 hin
          clear hne
          go_wp2
          go_loop [41] (fun i => ∃ (k : Nat), k ≤ (f m).nl ∧ i = .int .i64 k ∧ (∀ j, j < k → inB ((P m).s j) 0 1000000 = true)) (fun i => (f m).nl - (intOf i).toNat)
          case atStart => exact ⟨0, Nat.zero_le _, rfl, fun _ h => by omega⟩
          case round =>
            obtain ⟨k, hk, rfl, hall2⟩ := hrel
            by_cases hlt2 : k < (f m).nl
            · obtain ⟨bi, oi, rfl, _, hbi, q0⟩ := hin k hlt2
              cases e0 : inB ((P m).s k) 0 1000000
              · go_wp2_with (go_at_call 52; refine (within_any _ _ _ _).mono ?_; rintro e w' ⟨rfl, rfl⟩)
                go_ret
                exact ⟨by rw [shapeB_at hlt (by rw [hne'.out]; exact hlt2) e0]; rfl, hB⟩
              · go_wp2_with (go_at_call 52; refine (within_any _ _ _ _).mono ?_; rintro e w' ⟨rfl, rfl⟩)
                go_round
                case rel => exact ⟨k + 1, by omega, by go_num, fun j hj => (by by_cases e : j = k; (· subst e; exact e0); (· exact hall2 j (by omega)))⟩
                case measure => simp [intOf]; omega
            · obtain rfl : k = (f m).nl := by omega
              go_wp2
              go_round
              case rel => exact ⟨m + 1, by omega, by go_num, fun j hj => (by by_cases e : j = m; (· subst e; exact ⟨hne'.out, fun k hk => hall2 k (by rw [← hne'.out]; exact hk)⟩); (· exact hall j (by omega)))⟩
              case measure => simp [intOf]; omega
        · have hne' : (((P m).n : Int) == ((f m).nl : Int)) = false := by simp; omega
          go_wp2
          go_ret
          exact ⟨by rw [shapeB_row hlt hne]; rfl, hB⟩
      · obtain rfl : m = np := by omega
        go_wp2
        go_ret
        exact ⟨by rw [show shapeB m f m P = true from decide_eq_true ⟨rfl, hall⟩]; rfl, hB⟩
  · have hne' : ((np : Int) == (len' : Int)) = false := by simp; omega
    go_enter Tryz.func22, Tryz.ntmps22
    go_wp2_with (go_at_call 40; refine (isRight_yes _ _ _ g _ _ _ _ f _ hl hl' hml (hI.grow (b2 _ _ _)) (hT.grow (b2 _ _ _)) hg1 hF).mono ?_; rintro e W ⟨rfl, hB2⟩; have hB := Below.join (b2 w _ _) (Nat.le_refl _) hB2; have x2 := cellLater hB2 y2; have z0 := cellLater hB2 u0; clear y0 y1 y2 u0)
    go_ret
    exact ⟨by rw [shapeB_len hnp]; rfl, hB⟩
end Go.Proofs.YtelickcfodcmaaaGreatDoor
