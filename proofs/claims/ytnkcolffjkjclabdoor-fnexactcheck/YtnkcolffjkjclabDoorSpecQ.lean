/-
  The model's word on a plan's shape, and when a train is at its end.
-/
import Derived.Test.YtnkcolffjkjclabDoorSpecP
namespace Go.Proofs.YtnkcolffjkjclabDoor
open Go.RowKit

theorem shapeB_len {ntr : Nat} {f : Nat → TrainD} {np : Nat} {P : Nat → RowD} (h : np ≠ ntr) : shapeB ntr f np P = false := decide_eq_false (fun hh => h hh.1)
theorem shapeB_row {ntr : Nat} {f : Nat → TrainD} {np : Nat} {P : Nat → RowD} {i : Nat} (hi : i < np) (h : (P i).n ≠ (f i).nl) : shapeB ntr f np P = false := decide_eq_false (fun hh => h (hh.2 i hi).1)
theorem shapeB_at {ntr : Nat} {f : Nat → TrainD} {np : Nat} {P : Nat → RowD} {i k : Nat} (hi : i < np) (hk : k < (P i).n) (h : inB ((P i).s k) 0 1000000 = false) : shapeB ntr f np P = false := decide_eq_false (fun hh => by rw [(hh.2 i hi).2 k hk] at h; cases h)

set_option maxHeartbeats 4000000 in
theorem l2shape_any (a : Option Addr) (len cap : Nat) (gap : Int) (a' : Option Addr) (len' cap' : Nat) (f : Nat → TrainD) (c : Option Addr) (np nc : Nat) (P : Nat → RowD) (w : World)
    (hl' : len' ≤ 1048576) (hp : np ≤ 1048576) (hml : ∀ j, j < len' → (f j).nl ≤ 1048576) (hmp : ∀ j, j < np → (P j).n ≤ 1048576) (hT : IsTrains 0 w.heap.size w a' len' f) (hP : IsRows 0 w.heap.size w c np P) :
    Calls Tryd.prog 23 #[.agg #[.slice a len cap, .int .i64 gap, .slice a' len' cap'], .agg #[.slice c np nc]] w fun e w' => e = .returned (.bool (shapeB len' f np P)) ∧ Below w.heap.size w w' := by
  by_cases hnp : np = len'
  · subst hnp
    go_enter Tryd.func23, Tryd.ntmps23
    go_wp2
    refine nameW fun W hW => ?_
    have hB : Below w.heap.size w W := hW ▸ b2 _ _ _
    have x2 : W.cell? ⟨w.heap.size, 2, none⟩ = some (.slice a' np cap') := by rw [hW, World.cell?_alloc_lt _ _ ⟨w.heap.size, 2, none⟩ (by simp)]; exact (new3 _ _ _ _ _).2.2
    clear hW
    go_loop [19] (fun i => ∃ (m : Nat), m ≤ np ∧ i = .int .i64 m ∧ (∀ j, j < m → (P j).n = (f j).nl ∧ ∀ k, k < (P j).n → inB ((P j).s k) 0 1000000 = true)) (fun i => np - (intOf i).toNat)
    case atStart => exact ⟨0, Nat.zero_le _, rfl, fun _ h => by omega⟩
    case round =>
      obtain ⟨m, hm, rfl, hall⟩ := hrel
      by_cases hlt : m < np
      · obtain ⟨b, off, la, lc, rfl, _, hb, t0, t1, t2, t3, t4, hlg, _⟩ := (hT.below hB (Nat.le_refl _)) m hlt
        obtain ⟨bp, op, lp, lpc, rfl, _, hbp, p0, hin, _⟩ := (hP.below hB (Nat.le_refl _)) m hlt
        have hm1 := hml m hlt
        have hm2 := hmp m hlt
        by_cases hne : (P m).n = (f m).nl
        · have hne' : Hid ((P m).n = (f m).nl) := hne
          rw [hne] at p0 hin
          clear hne
          go_wp2
          go_loop [36] (fun i => ∃ (k : Nat), k ≤ (f m).nl ∧ i = .int .i64 k ∧ (∀ j, j < k → inB ((P m).s j) 0 1000000 = true)) (fun i => (f m).nl - (intOf i).toNat)
          case atStart => exact ⟨0, Nat.zero_le _, rfl, fun _ h => by omega⟩
          case round =>
            obtain ⟨k, hk, rfl, hall2⟩ := hrel
            by_cases hlt2 : k < (f m).nl
            · obtain ⟨bi, oi, rfl, _, hbi, q0⟩ := hin k hlt2
              cases e0 : inB ((P m).s k) 0 1000000
              · go_wp2_with (go_at_call 40; refine (l1in_any _ _ _ _).mono ?_; rintro e w' ⟨rfl, rfl⟩)
                go_ret
                exact ⟨by rw [shapeB_at hlt (by rw [hne'.out]; exact hlt2) e0]; rfl, hB⟩
              · go_wp2_with (go_at_call 40; refine (l1in_any _ _ _ _).mono ?_; rintro e w' ⟨rfl, rfl⟩)
                go_round
                case rel => exact ⟨k + 1, by omega, by go_num, fun j hj => (by by_cases e : j = k; (· subst e; exact e0); (· exact hall2 j (by omega)))⟩
                case measure => simp [intOf]; omega
            · obtain rfl : k = (f m).nl := by omega
              go_wp2
              go_round
              case rel => exact ⟨m + 1, by omega, by go_num, fun j hj => (by by_cases e : j = m; (· subst e; exact ⟨hne'.out, fun k hk => hall2 k (by rw [← hne'.out]; exact hk)⟩); (· exact hall j (by omega)))⟩
              case measure => simp [intOf]; omega
        · have hne' : (((P m).n : Int) == ((f m).nl : Int)) = false := by simp; omega
          go_wp2
          go_ret
          exact ⟨by rw [shapeB_row hlt hne]; rfl, hB⟩
      · obtain rfl : m = np := by omega
        go_wp2
        go_ret
        exact ⟨by rw [show shapeB m f m P = true from decide_eq_true ⟨rfl, hall⟩]; rfl, hB⟩
  · have hne' : ((np : Int) == (len' : Int)) = false := by simp; omega
    go_enter Tryd.func23, Tryd.ntmps23
    go_wp2
    go_ret
    exact ⟨by rw [shapeB_len hnp]; rfl, b2 _ _ _⟩

theorem box2 (w : World) (a : Option Addr) (len cap : Nat) (gap : Int) (a' : Option Addr) (len' cap' : Nat) (c : Option Addr) (np nc : Nat) (t t' : TypeId) :
    ((w.alloc (.cells #[.slice a len cap, .int .i64 gap, .slice a' len' cap'] t)).alloc (.cells #[.slice c np nc] t')).cell? ⟨w.heap.size, 0, none⟩ = some (.slice a len cap) ∧ ((w.alloc (.cells #[.slice a len cap, .int .i64 gap, .slice a' len' cap'] t)).alloc (.cells #[.slice c np nc] t')).cell? ⟨w.heap.size, 1, none⟩ = some (.int .i64 gap) ∧
    ((w.alloc (.cells #[.slice a len cap, .int .i64 gap, .slice a' len' cap'] t)).alloc (.cells #[.slice c np nc] t')).cell? ⟨w.heap.size, 2, none⟩ = some (.slice a' len' cap') ∧ ((w.alloc (.cells #[.slice a len cap, .int .i64 gap, .slice a' len' cap'] t)).alloc (.cells #[.slice c np nc] t')).cell? ⟨w.heap.size + 1, 0, none⟩ = some (.slice c np nc) := by
  obtain ⟨n0, n1, n2⟩ := new3 w (.slice a len cap) (.int .i64 gap) (.slice a' len' cap') t
  exact ⟨cellLater (b1 _ _) n0, cellLater (b1 _ _) n1, cellLater (b1 _ _) n2, by rw [World.cell?_alloc_at _ _ _ _ (by simp)]; rfl⟩

set_option maxHeartbeats 4000000 in
theorem specArrives_any (a : Option Addr) (len cap : Nat) (g : Nat → Int) (gap : Int) (a' : Option Addr) (len' cap' : Nat) (f : Nat → TrainD) (c : Option Addr) (np nc : Nat) (P : Nat → RowD) (i : Int) (w : World)
    (hl : len ≤ 1048576) (hl' : len' ≤ 1048576) (hml : ∀ j, j < len' → (f j).nl ≤ 1048576) (hp : np ≤ 1048576) (hmp : ∀ j, j < np → (P j).n ≤ 1048576) (hI : IsInts 0 w.heap.size w a len g) (hT : IsTrains 0 w.heap.size w a' len' f) (hP : IsRows 0 w.heap.size w c np P) :
    Calls Tryd.prog 15 #[.agg #[.slice a len cap, .int .i64 gap, .slice a' len' cap'], .agg #[.slice c np nc], .int .i64 i] w fun e w' => e = .returned (.int .i64 (arrivesOf len g gap len' f np P i)) ∧ Below w.heap.size w w' := by
  obtain ⟨y0, y1, y2, u0⟩ := box2 w a len cap gap a' len' cap' c np nc 36 38
  by_cases hF : (faultOf len g gap len' f).1 = 0
  · have hF0 := faultOf_snd hF
    have hR := rightL_of hF0
    have hF1 : Hid (faultOf len g gap len' f = (0, 0)) := hF0
    cases hS : shapeB len' f np P
    · have hA : arrivesOf len g gap len' f np P i = -1 := by unfold arrivesOf; rw [if_neg (by simp [hS])]
      rw [hA]
      clear hF hF0 hA
      go_enter Tryd.func15, Tryd.ntmps15
      go_wp2_with (first | (go_at_call 22; refine (l1ok_yes _ _ _ g _ _ _ _ f _ hl hl' hml (hI.grow (b2 _ _ _)) (hT.grow (b2 _ _ _)) hF1).mono ?_; rintro e w2 ⟨rfl, hB2⟩; have hBx := Below.join (b2 w _ _) (Nat.le_refl _) hB2; have x0 := cellLater hB2 y0; have x1 := cellLater hB2 y1; have x2 := cellLater hB2 y2; have z0 := cellLater hB2 u0) | (go_at_call 23; refine (l2shape_any _ _ _ _ _ _ _ f _ _ _ P _ hl' hp hml hmp (hT.grow hBx) (hP.grow hBx)).mono ?_; rw [hS]; rintro e w3 ⟨rfl, hB3⟩; replace hBx := Below.join hBx (Nat.le_refl _) hB3; replace x0 := cellLater hB3 x0; replace x1 := cellLater hB3 x1; replace x2 := cellLater hB3 x2; replace z0 := cellLater hB3 z0))
      go_ret
      exact ⟨rfl, hBx⟩
    · have hQ := rightP_of hS
      cases hi : inB i 0 (len' - 1)
      · have hA : arrivesOf len g gap len' f np P i = -1 := by unfold arrivesOf; rw [if_neg (by simp [hi])]
        rw [hA]
        clear hF hF0 hA
        go_enter Tryd.func15, Tryd.ntmps15
        go_wp2_with (first | (go_at_call 22; refine (l1ok_yes _ _ _ g _ _ _ _ f _ hl hl' hml (hI.grow (b2 _ _ _)) (hT.grow (b2 _ _ _)) hF1).mono ?_; rintro e w2 ⟨rfl, hB2⟩; have hBx := Below.join (b2 w _ _) (Nat.le_refl _) hB2; have x0 := cellLater hB2 y0; have x1 := cellLater hB2 y1; have x2 := cellLater hB2 y2; have z0 := cellLater hB2 u0) | (go_at_call 23; refine (l2shape_any _ _ _ _ _ _ _ f _ _ _ P _ hl' hp hml hmp (hT.grow hBx) (hP.grow hBx)).mono ?_; rw [hS]; rintro e w3 ⟨rfl, hB3⟩; replace hBx := Below.join hBx (Nat.le_refl _) hB3; replace x0 := cellLater hB3 x0; replace x1 := cellLater hB3 x1; replace x2 := cellLater hB3 x2; replace z0 := cellLater hB3 z0) | (go_at_call 40; refine (l1in_any _ _ _ _).mono ?_; rintro e w' ⟨rfl, rfl⟩))
        go_ret
        exact ⟨rfl, hBx⟩
      · have hA : arrivesOf len g gap len' f np P i = (P i.toNat).s ((f i.toNat).nl - 1) + ((f i.toNat).leg ((f i.toNat).nl - 1)).run := by unfold arrivesOf; rw [if_pos ⟨hF, hS, hi⟩]
        rw [hA]
        have hib := of_decide_eq_true hi
        obtain ⟨k, rfl⟩ : ∃ k : Nat, i = (k : Int) := ⟨i.toNat, by omega⟩
        rw [Int.toNat_natCast]
        have hk : k < len' := by omega
        obtain ⟨e, he⟩ : ∃ e, (f k).nl = e + 1 := ⟨(f k).nl - 1, by have := hR.pos k hk; omega⟩
        rw [he, Nat.add_sub_cancel]
        clear hF hF0 hA hib
        obtain rfl : np = len' := hQ.np
        have htr := hR.tr
        have hRk := hR.train k hk
        have hnl := hRk.nl
        have hk' : (k : Int) < (np : Int) := by omega
        obtain ⟨l0, l1, l2, l3⟩ := hRk.leg e (by omega)
        obtain ⟨s0, s1⟩ := hQ.at0 k hk e (by omega)
        obtain ⟨b, off, la, lc, rfl, _, hb, t0, t1, t2, t3, t4, hlg, _⟩ := hT k hk
        obtain ⟨bl, ol, rfl, _, hbl, g0, g1, g2⟩ := hlg e (by omega)
        obtain ⟨bp, op, lp, lpc, rfl, _, hbp, p0, hin, _⟩ := hP k hk
        rw [hQ.row k hk, he] at p0 hin
        rw [he] at t4
        obtain ⟨bi, oi, rfl, _, hbi, q0⟩ := hin e (by omega)
        have he10 : e ≤ 9 := by omega
        have hn0 : (0 : Int) ≤ (e : Int) := by omega
        have he1 : (e : Int) < (e : Int) + 1 := by omega
        have he2 : (e : Int) < ((e + 1 : Nat) : Int) := by omega
        clear he
        go_enter Tryd.func15, Tryd.ntmps15
        go_wp2_with (first | (go_at_call 22; refine (l1ok_yes _ _ _ g _ _ _ _ f _ hl hl' hml (hI.grow (b2 _ _ _)) (hT.grow (b2 _ _ _)) hF1).mono ?_; rintro _ w2 ⟨rfl, hB2⟩; have hBx := Below.join (b2 w _ _) (Nat.le_refl _) hB2; have x0 := cellLater hB2 y0; have x1 := cellLater hB2 y1; have x2 := cellLater hB2 y2; have z0 := cellLater hB2 u0; replace p0 := cellLater hBx p0; replace q0 := cellLater hBx q0; replace g1 := cellLater hBx g1; replace t4 := cellLater hBx t4) | (go_at_call 23; refine (l2shape_any _ _ _ _ _ _ _ f _ _ _ P _ hl' hp hml hmp (hT.grow hBx) (hP.grow hBx)).mono ?_; rw [hS]; rintro _ w3 ⟨rfl, hB3⟩; replace hBx := Below.join hBx (Nat.le_refl _) hB3; replace x0 := cellLater hB3 x0; replace x1 := cellLater hB3 x1; replace x2 := cellLater hB3 x2; replace z0 := cellLater hB3 z0; replace p0 := cellLater hB3 p0; replace q0 := cellLater hB3 q0; replace g1 := cellLater hB3 g1; replace t4 := cellLater hB3 t4) | (go_at_call 40; refine (l1in_any _ _ _ _).mono ?_; rintro _ w' ⟨rfl, rfl⟩))
        go_region_held3 (fun w' => w'.cell? ⟨w.heap.size + 1, 0, none⟩ = some (.slice (some ⟨bp, op, none⟩) np nc) ∧ w'.cell? ⟨bp, op + k, none⟩ = some (.slice (some ⟨bi, oi, none⟩) (e + 1) lpc) ∧ w'.cell? ⟨bi, oi + e, none⟩ = some (.int .i64 ((P k).s e)) ∧ w'.cell? ⟨w.heap.size, 2, none⟩ = some (.slice (some ⟨b, off, none⟩) np cap') ∧ w'.cell? ⟨b, off + k * 5 + 4, none⟩ = some (.slice (some ⟨bl, ol, none⟩) (e + 1) lc) ∧ w'.cell? ⟨bl, ol + e * 3 + 1, none⟩ = some (.int .i64 ((f k).leg e).run)) (go_keep) (fail)
        go_wp2
        go_ret
        exact ⟨ret_int (by rw [IntKind.wrap_i64]; omega), hBx.drew⟩
  · have hA : arrivesOf len g gap len' f np P i = -1 := by unfold arrivesOf; rw [if_neg (by simp [hF])]
    rw [hA]
    have hF1 : Hid ((faultOf len g gap len' f).1 ≠ 0) := hF
    clear hF hA
    go_enter Tryd.func15, Tryd.ntmps15
    go_wp2_with (go_at_call 22; refine (l1ok_no _ _ _ g _ _ _ _ f _ hl hl' hml (hI.grow (b2 _ _ _)) (hT.grow (b2 _ _ _)) hF1.out).mono ?_; rintro e w2 ⟨rfl, hB2⟩)
    go_ret
    exact ⟨rfl, Below.join (b2 _ _ _) (Nat.le_refl _) hB2⟩
end Go.Proofs.YtnkcolffjkjclabDoor
