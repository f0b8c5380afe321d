/-
  The model's Alone and Least: what they answer.
-/
import Derived.Test.YtafbnkhdfnnpmaaDoorRight
import Derived.Test.YtafbnkhdfnnpmaaDoorSpecL
import Derived.Deep.RegionHeld3
namespace Go.Proofs.YtafbnkhdfnnpmaaDoor
open Go.RowKit

set_option maxHeartbeats 2000000 in
theorem l1alone_any (t : TrainD) (la : Option Addr) (lc : Nat) (w : World) (hR : RightT t) (hL : IsLegs 0 w.heap.size w la t.nl t.leg) :
    Calls Tryd.prog 28 #[.agg #[.int .i64 t.frm, .int .i64 t.ready, .int .i64 t.due, .int .i64 t.weight, .slice la t.nl lc]] w fun e w' => e = .returned (.int .i64 (endOf t)) ∧ Below w.heap.size w w' := by
  have hr0 := hR.r0
  have hr1 := hR.r1
  have hn := hR.nl
  go_enter Tryd.func28, Tryd.ntmps28
  go_wp2
  go_loopw [3, 11] (fun at_ i wr => ∃ (k : Nat), k ≤ t.nl ∧ i = .int .i64 k ∧ at_ = .int .i64 (t.ready + ticks t k) ∧ Below w.heap.size w wr) (fun _ i _ => t.nl - (intOf i).toNat)
  case atStart => exact ⟨0, Nat.zero_le _, rfl, int_eq (by simp [ticks]), b1 _ _⟩
  case round =>
    obtain ⟨k, hk, rfl, rfl, hB⟩ := hrel
    obtain ⟨hb0, hb1⟩ := ticks_bd hR k hk
    have hb2 : ticks t k ≤ 200000 := by omega
    clear hb1
    by_cases hlt : k < t.nl
    · obtain ⟨b, off, rfl, _, hb, c0, c1, c2⟩ := (hL.below hB (Nat.le_refl _)) k hlt
      obtain ⟨l0, l1, l2, l3⟩ := hR.leg k hlt
      go_wp2
      go_roundw
      case rel => exact ⟨k + 1, by omega, by go_num, int_eq (by simp only [ticks]; omega), hB.alloc hB.size _⟩
      case measure => simp [intOf]; omega
    · obtain rfl : k = t.nl := by omega
      go_wp2
      go_ret
      exact ⟨rfl, hB⟩

set_option maxHeartbeats 1000000 in
theorem l1ok_yes (a : Option Addr) (len cap : Nat) (g : Nat → Int) (gap : Int) (a' : Option Addr) (len' cap' : Nat) (f : Nat → TrainD) (w : World) (hl : len ≤ 1048576) (hl' : len' ≤ 1048576) (hml : ∀ j, j < len' → (f j).nl ≤ 1048576)
    (hI : IsInts 0 w.heap.size w a len g) (hT : IsTrains 0 w.heap.size w a' len' f) (hF : Hid (faultOf len g gap len' f = (0, 0))) :
    Calls Tryd.prog 27 #[.agg #[.slice a len cap, .int .i64 gap, .slice a' len' cap']] w fun e w' => e = .returned (.bool true) ∧ Below w.heap.size w w' := by
  have hs : ∀ W : World, Below w.heap.size w W → Calls Tryd.prog 7 #[.agg #[.slice a len cap, .int .i64 gap, .slice a' len' cap']] W fun e w' => e = .returned (.agg #[.int .i64 0, .int .i64 0]) ∧ Below W.heap.size W w' := fun W hB => by
    have h := specOk_any a len cap g gap a' len' cap' f W hl hl' hml (hI.grow hB) (hT.grow hB)
    rw [hF.out] at h; exact h
  go_enter Tryd.func27, Tryd.ntmps27
  go_wp2_with (go_at_call 7; refine (hs _ (b1 _ _)).mono ?_; clear hs; rintro e w2 ⟨rfl, hB2⟩)
  go_ret
  exact ⟨rfl, (Below.join (b1 _ _) (Nat.le_refl _) hB2).alloc (Below.join (b1 _ _) (Nat.le_refl _) hB2).size _⟩

set_option maxHeartbeats 1000000 in
theorem l1ok_no (a : Option Addr) (len cap : Nat) (g : Nat → Int) (gap : Int) (a' : Option Addr) (len' cap' : Nat) (f : Nat → TrainD) (w : World) (hl : len ≤ 1048576) (hl' : len' ≤ 1048576) (hml : ∀ j, j < len' → (f j).nl ≤ 1048576)
    (hI : IsInts 0 w.heap.size w a len g) (hT : IsTrains 0 w.heap.size w a' len' f) (hF : (faultOf len g gap len' f).1 ≠ 0) :
    Calls Tryd.prog 27 #[.agg #[.slice a len cap, .int .i64 gap, .slice a' len' cap']] w fun e w' => e = .returned (.bool false) ∧ Below w.heap.size w w' := by
  have hF' : ((faultOf len g gap len' f).1 == 0) = false := by simpa using hF
  go_enter Tryd.func27, Tryd.ntmps27
  go_wp2_with (go_at_call 7; refine (specOk_any _ _ _ g _ _ _ _ f _ hl hl' hml (hI.grow (b1 _ _)) (hT.grow (b1 _ _))).mono ?_; rintro e w2 ⟨rfl, hB2⟩)
  go_ret
  exact ⟨rfl, (Below.join (b1 _ _) (Nat.le_refl _) hB2).alloc (Below.join (b1 _ _) (Nat.le_refl _) hB2).size _⟩

/-- when a train would be at its end, or -1 -/
def aloneOf (nt : Nat) (g : Nat → Int) (gap : Int) (ntr : Nat) (f : Nat → TrainD) (i : Int) : Int :=
  if (faultOf nt g gap ntr f).1 = 0 ∧ inB i 0 (ntr - 1) = true then endOf (f i.toNat) else -1

set_option maxHeartbeats 2000000 in
theorem specAlone_any (a : Option Addr) (len cap : Nat) (g : Nat → Int) (gap : Int) (a' : Option Addr) (len' cap' : Nat) (f : Nat → TrainD) (i : Int) (w : World) (hl : len ≤ 1048576) (hl' : len' ≤ 1048576) (hml : ∀ j, j < len' → (f j).nl ≤ 1048576)
    (hI : IsInts 0 w.heap.size w a len g) (hT : IsTrains 0 w.heap.size w a' len' f) :
    Calls Tryd.prog 12 #[.agg #[.slice a len cap, .int .i64 gap, .slice a' len' cap'], .int .i64 i] w fun e w' => e = .returned (.int .i64 (aloneOf len g gap len' f i)) ∧ Below w.heap.size w w' := by
  by_cases hF : (faultOf len g gap len' f).1 = 0
  · have hF0 := faultOf_snd hF
    have hR := rightL_of hF0
    have hF1 : Hid (faultOf len g gap len' f = (0, 0)) := hF0
    cases hi : inB i 0 (len' - 1)
    · have hA : aloneOf len g gap len' f i = -1 := by unfold aloneOf; rw [if_neg (by simp [hi])]
      rw [hA]
      clear hF hF0 hA
      go_enter Tryd.func12, Tryd.ntmps12
      go_wp2_with (first | (go_at_call 27; refine (l1ok_yes _ _ _ g _ _ _ _ f _ hl hl' hml (hI.grow (b1 _ _)) (hT.grow (b1 _ _)) hF1).mono ?_; rintro e w2 ⟨rfl, hB2⟩; obtain ⟨hc, hf⟩ := bcell hB2; have hBx := Below.join (b1 w _) (Nat.le_refl _) hB2) | (go_at_call 18; refine (l1in_any _ _ _ _).mono ?_; rintro e w' ⟨rfl, rfl⟩))
      go_ret
      exact ⟨rfl, hBx⟩
    · have hA : aloneOf len g gap len' f i = endOf (f i.toNat) := by unfold aloneOf; rw [if_pos ⟨hF, hi⟩]
      rw [hA]
      have hib := of_decide_eq_true hi
      obtain ⟨k, rfl⟩ : ∃ k : Nat, i = (k : Int) := ⟨i.toNat, by omega⟩
      rw [Int.toNat_natCast]
      have hk : k < len' := by omega
      have hRk := hR.train k hk
      clear hF hF0 hA hib
      have hk' : (k : Int) < (len' : Int) := by omega
      obtain ⟨b, off, la, lc, rfl, _, _, c0, c1, c2, c3, c4, hlg, _⟩ := hT k hk
      go_enter Tryd.func12, Tryd.ntmps12
      go_wp2_with (first | (go_at_call 27; refine (l1ok_yes _ _ _ g _ _ _ _ f _ hl hl' hml (hI.grow (b1 _ _)) (hT.grow (b1 _ _)) hF1).mono ?_; rintro e w2 ⟨rfl, hB2⟩; have hBx := Below.join (b1 w _) (Nat.le_refl _) hB2; have q2 := cellLater hB2 (new3 w _ _ _ _).2.2; replace c0 := cellLater hBx c0; replace c1 := cellLater hBx c1; replace c2 := cellLater hBx c2; replace c3 := cellLater hBx c3; replace c4 := cellLater hBx c4; replace hlg := hlg.grow hBx) | (go_at_call 18; refine (l1in_any _ _ _ _).mono ?_; rintro e w' ⟨rfl, rfl⟩) | (go_at_call 28; refine (l1alone_any (f k) _ _ _ hRk hlg).mono ?_; rintro e w3 ⟨rfl, hB3⟩))
      go_ret
      exact ⟨rfl, Below.join hBx (Nat.le_refl _) hB3⟩
  · have hA : aloneOf len g gap len' f i = -1 := by unfold aloneOf; rw [if_neg (by simp [hF])]
    rw [hA]
    have hF1 : Hid ((faultOf len g gap len' f).1 ≠ 0) := hF
    clear hF hA
    go_enter Tryd.func12, Tryd.ntmps12
    go_wp2_with (go_at_call 27; refine (l1ok_no _ _ _ g _ _ _ _ f _ hl hl' hml (hI.grow (b1 _ _)) (hT.grow (b1 _ _)) hF1.out).mono ?_; rintro e w2 ⟨rfl, hB2⟩)
    go_ret
    exact ⟨rfl, Below.join (b1 _ _) (Nat.le_refl _) hB2⟩

theorem l1late_any (t : TrainD) (e : Int) (la : Option Addr) (lc : Nat) (w : World) (hR : RightT t) (h0 : 0 ≤ e) (h1 : e ≤ 300000) :
    Calls Tryd.prog 32 #[.agg #[.int .i64 t.frm, .int .i64 t.ready, .int .i64 t.due, .int .i64 t.weight, .slice la t.nl lc], .int .i64 e] w fun ev w' => ev = .returned (.int .i64 (lateOf t e)) ∧ Below w.heap.size w w' := by
  have hd0 := hR.d0
  have hd1 := hR.d1
  have hw0 := hR.w0
  have hw1 := hR.w1
  obtain ⟨lb0, lb1⟩ := lateOf_bd hR h0 h1
  by_cases hc : e ≤ t.due
  · have hL : lateOf t e = 0 := by unfold lateOf; rw [if_pos hc]
    rw [hL]
    clear hL lb0 lb1
    go_enter Tryd.func32, Tryd.ntmps32
    go_wp2
    go_ret
    exact ⟨rfl, b1 _ _⟩
  · have hL : lateOf t e = t.weight * (e - t.due) := by unfold lateOf; rw [if_neg hc]
    rw [hL] at lb0 lb1 ⊢
    clear hL
    go_enter Tryd.func32, Tryd.ntmps32
    go_wp2
    go_ret
    exact ⟨rfl, b1 _ _⟩

/-- what the lateness of all trains costs, each alone, or -1 -/
def leastOf (nt : Nat) (g : Nat → Int) (gap : Int) (ntr : Nat) (f : Nat → TrainD) : Int :=
  if (faultOf nt g gap ntr f).1 = 0 then costSum f ntr else -1

set_option maxHeartbeats 4000000 in
theorem specLeast_any (a : Option Addr) (len cap : Nat) (g : Nat → Int) (gap : Int) (a' : Option Addr) (len' cap' : Nat) (f : Nat → TrainD) (w : World) (hl : len ≤ 1048576) (hl' : len' ≤ 1048576) (hml : ∀ j, j < len' → (f j).nl ≤ 1048576)
    (hI : IsInts 0 w.heap.size w a len g) (hT : IsTrains 0 w.heap.size w a' len' f) :
    Calls Tryd.prog 14 #[.agg #[.slice a len cap, .int .i64 gap, .slice a' len' cap']] w fun e w' => e = .returned (.int .i64 (leastOf len g gap len' f)) ∧ Below w.heap.size w w' := by
  by_cases hF : (faultOf len g gap len' f).1 = 0
  · have hF0 := faultOf_snd hF
    have hR := rightL_of hF0
    have hF1 : Hid (faultOf len g gap len' f = (0, 0)) := hF0
    have hA : leastOf len g gap len' f = costSum f len' := by unfold leastOf; rw [if_pos hF]
    rw [hA]
    have htr := hR.tr
    clear hF hF0 hA
    go_enter Tryd.func14, Tryd.ntmps14
    go_wp2_with (go_at_call 27; refine (l1ok_yes _ _ _ g _ _ _ _ f _ hl hl' hml (hI.grow (b1 _ _)) (hT.grow (b1 _ _)) hF1).mono ?_; rintro e w2 ⟨rfl, hB2⟩; obtain ⟨hc, hf⟩ := bcell hB2; have hBx := Below.join (b1 w _) (Nat.le_refl _) hB2)
    go_loopw [3, 12] (fun n i wr => ∃ (k : Nat), k ≤ len' ∧ i = .int .i64 k ∧ n = .int .i64 (costSum f k) ∧ Below w.heap.size w wr) (fun _ i _ => len' - (intOf i).toNat)
    case atStart => exact ⟨0, Nat.zero_le _, rfl, rfl, hBx⟩
    case round =>
      obtain ⟨k, hk, rfl, rfl, hB⟩ := hrel
      obtain ⟨s0, s1⟩ := costSum_bd hR.train k hk
      have s2 : costSum f k ≤ 150000000 := by omega
      clear s1
      by_cases hlt : k < len'
      · obtain ⟨b, off, la, lc, rfl, _, hb, c0, c1, c2, c3, c4, hlg, _⟩ := (hT.below hB (Nat.le_refl _)) k hlt
        have hRk := hR.train k hlt
        obtain ⟨e0, e1⟩ := endOf_bd hRk
        obtain ⟨l0, l1⟩ := lateOf_bd hRk e0 e1
        have hlg' : IsLegs 0 wr.heap.size wr la (f k).nl (f k).leg := hlg.mono (Nat.le_refl _) hB.size
        clear hlg
        have hlgd : IsLegs 0 (wr.alloc (.cells #[.int .i64 (f k).frm, .int .i64 (f k).ready, .int .i64 (f k).due, .int .i64 (f k).weight, .slice la (f k).nl lc] 45)).drew.heap.size (wr.alloc (.cells #[.int .i64 (f k).frm, .int .i64 (f k).ready, .int .i64 (f k).due, .int .i64 (f k).weight, .slice la (f k).nl lc] 45)).drew la (f k).nl (f k).leg := hlg'.grow (b1 _ _).drew
        go_wp2
        go_region_held3 (fun w' => w'.cell? ⟨wr.heap.size, 0, none⟩ = some (.int .i64 (f k).frm) ∧ w'.cell? ⟨wr.heap.size, 1, none⟩ = some (.int .i64 (f k).ready) ∧ w'.cell? ⟨wr.heap.size, 2, none⟩ = some (.int .i64 (f k).due) ∧ w'.cell? ⟨wr.heap.size, 3, none⟩ = some (.int .i64 (f k).weight) ∧ w'.cell? ⟨wr.heap.size, 4, none⟩ = some (.slice la (f k).nl lc)) (first | go_keep | (go_split_ands; refine ⟨?_, ?_, ?_, ?_, ?_⟩ <;> exact cellLater hB3 (by assumption)) | (go_split_ands; refine ⟨?_, ?_, ?_, ?_, ?_⟩ <;> exact cellLater hB4 (by assumption))) ((first | (go_at_call 28; refine (l1alone_any (f k) _ _ _ hRk hlgd).mono ?_; rintro e w3 ⟨rfl, hB3⟩) | (go_at_call 32; refine (l1late_any (f k) _ _ _ _ hRk e0 e1).mono ?_; rintro e w4 ⟨rfl, hB4⟩)))
        go_wp2
        go_roundw
        case rel => exact ⟨k + 1, by omega, by go_num, int_eq (by simp only [costSum]; rw [IntKind.wrap_i64]; omega), Below.join (Below.join (hB.alloc hB.size _).drew (Nat.le_refl _) hB3) (Nat.le_refl _) hB4⟩
        case measure => simp [intOf]; omega
      · obtain rfl : k = len' := by omega
        go_wp2
        go_ret
        exact ⟨rfl, hB⟩
  · have hA : leastOf len g gap len' f = -1 := by unfold leastOf; rw [if_neg (by simp [hF])]
    rw [hA]
    have hF1 : Hid ((faultOf len g gap len' f).1 ≠ 0) := hF
    clear hF hA
    go_enter Tryd.func14, Tryd.ntmps14
    go_wp2_with (go_at_call 27; refine (l1ok_no _ _ _ g _ _ _ _ f _ hl hl' hml (hI.grow (b1 _ _)) (hT.grow (b1 _ _)) hF1.out).mono ?_; rintro e w2 ⟨rfl, hB2⟩)
    go_ret
    exact ⟨rfl, Below.join (b1 _ _) (Nat.le_refl _) hB2⟩
end Go.Proofs.YtafbnkhdfnnpmaaDoor
