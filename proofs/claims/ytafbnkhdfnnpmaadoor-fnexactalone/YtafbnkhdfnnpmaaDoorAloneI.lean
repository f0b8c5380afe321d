/-
  The program's Alone and Least: what they answer.
-/
import Derived.Test.YtafbnkhdfnnpmaaDoorSumL
import Derived.Test.YtafbnkhdfnnpmaaDoorAloneS
namespace Go.Proofs.YtafbnkhdfnnpmaaDoor
open Go.RowKit Go.Shelf

set_option maxHeartbeats 2000000 in
theorem costAlone_any (t : TrainD) (la : Option Addr) (lc : Nat) (w : World) (hR : RightT t) (hL : IsLegs 0 w.heap.size w la t.nl t.leg) :
    Calls Tryd.prog 35 #[.agg #[.int .i64 t.frm, .int .i64 t.ready, .int .i64 t.due, .int .i64 t.weight, .slice la t.nl lc]] w fun e w' => e = .returned (.int .i64 (lateOf t (endOf t))) ∧ Below w.heap.size w w' := by
  obtain ⟨e0, e1⟩ := endOf_bd hR
  have hLd : IsLegs 0 (w.alloc (.cells #[.int .i64 t.frm, .int .i64 t.ready, .int .i64 t.due, .int .i64 t.weight, .slice la t.nl lc] 45)).drew.heap.size (w.alloc (.cells #[.int .i64 t.frm, .int .i64 t.ready, .int .i64 t.due, .int .i64 t.weight, .slice la t.nl lc] 45)).drew la t.nl t.leg := hL.grow (b1 _ _).drew
  go_enter Tryd.func35, Tryd.ntmps35
  go_wp2
  go_region_held3 (fun w' => w'.cell? ⟨w.heap.size, 0, none⟩ = some (.int .i64 t.frm) ∧ w'.cell? ⟨w.heap.size, 1, none⟩ = some (.int .i64 t.ready) ∧ w'.cell? ⟨w.heap.size, 2, none⟩ = some (.int .i64 t.due) ∧ w'.cell? ⟨w.heap.size, 3, none⟩ = some (.int .i64 t.weight) ∧ w'.cell? ⟨w.heap.size, 4, none⟩ = some (.slice la t.nl lc)) (first | go_keep | (go_split_ands; refine ⟨?_, ?_, ?_, ?_, ?_⟩ <;> exact cellLater hB3 (by assumption)) | (go_split_ands; refine ⟨?_, ?_, ?_, ?_, ?_⟩ <;> exact cellLater hB4 (by assumption))) ((first | (go_at_call 31; refine (endAlone_any t _ _ _ hR hLd).mono ?_; rintro e w3 ⟨rfl, hB3⟩) | (go_at_call 49; refine (lateness_any t _ _ _ _ hR e0 e1).mono ?_; rintro e w4 ⟨rfl, hB4⟩)))
  go_wp2
  go_ret
  exact ⟨rfl, Below.join (Below.join (b1 _ _).drew (Nat.le_refl _) hB3) (Nat.le_refl _) hB4⟩

set_option maxHeartbeats 1000000 in
theorem isRight_yes (a : Option Addr) (len cap : Nat) (g : Nat → Int) (gap : Int) (a' : Option Addr) (len' cap' : Nat) (f : Nat → TrainD) (w : World) (hl : len ≤ 1048576) (hl' : len' ≤ 1048576) (hml : ∀ j, j < len' → (f j).nl ≤ 1048576)
    (hI : IsInts 0 w.heap.size w a len g) (hT : IsTrains 0 w.heap.size w a' len' f) (hg : w.cell? ⟨0, 0, none⟩ = some (.iface 93 (.agg #[.pointer (some ⟨1, 53, none⟩)]))) (hF : Hid (faultOf len g gap len' f = (0, 0))) :
    Calls Tryd.prog 29 #[.agg #[.slice a len cap, .int .i64 gap, .slice a' len' cap']] w fun e w' => e = .returned (.bool true) ∧ Below w.heap.size w w' := by
  have hs : ∀ W : World, Below w.heap.size w W → Calls Tryd.prog 9 #[.agg #[.slice a len cap, .int .i64 gap, .slice a' len' cap']] W fun e w' => e = .returned (.agg #[.int .i64 0, .int .i64 0]) ∧ Below W.heap.size W w' := fun W hB => by
    have h := implOk_any a len cap g gap a' len' cap' f W hl hl' hml (hI.grow hB) (hT.grow hB) (cellLater hB hg)
    rw [hF.out] at h; exact h
  go_enter Tryd.func29, Tryd.ntmps29
  go_wp2_with (go_at_call 9; refine (hs _ (b1 _ _)).mono ?_; clear hs; rintro e w2 ⟨rfl, hB2⟩)
  go_ret
  exact ⟨rfl, Below.join (b1 _ _) (Nat.le_refl _) hB2⟩

set_option maxHeartbeats 1000000 in
theorem isRight_no (a : Option Addr) (len cap : Nat) (g : Nat → Int) (gap : Int) (a' : Option Addr) (len' cap' : Nat) (f : Nat → TrainD) (w : World) (hl : len ≤ 1048576) (hl' : len' ≤ 1048576) (hml : ∀ j, j < len' → (f j).nl ≤ 1048576)
    (hI : IsInts 0 w.heap.size w a len g) (hT : IsTrains 0 w.heap.size w a' len' f) (hg : w.cell? ⟨0, 0, none⟩ = some (.iface 93 (.agg #[.pointer (some ⟨1, 53, none⟩)]))) (hF : (faultOf len g gap len' f).1 ≠ 0) :
    Calls Tryd.prog 29 #[.agg #[.slice a len cap, .int .i64 gap, .slice a' len' cap']] w fun e w' => e = .returned (.bool false) ∧ Below w.heap.size w w' := by
  have hF' : ((faultOf len g gap len' f).1 == 0) = false := by simpa using hF
  have hg1 := cellLater (b1 w (.cells #[.slice a len cap, .int .i64 gap, .slice a' len' cap'] 32)) hg
  go_enter Tryd.func29, Tryd.ntmps29
  go_wp2_with (go_at_call 9; refine (implOk_any _ _ _ g _ _ _ _ f _ hl hl' hml (hI.grow (b1 _ _)) (hT.grow (b1 _ _)) hg1).mono ?_; rintro e w2 ⟨rfl, hB2⟩)
  go_ret
  exact ⟨rfl, Below.join (b1 _ _) (Nat.le_refl _) hB2⟩

set_option maxHeartbeats 2000000 in
theorem implAlone_any (a : Option Addr) (len cap : Nat) (g : Nat → Int) (gap : Int) (a' : Option Addr) (len' cap' : Nat) (f : Nat → TrainD) (i : Int) (w : World) (hl : len ≤ 1048576) (hl' : len' ≤ 1048576) (hml : ∀ j, j < len' → (f j).nl ≤ 1048576)
    (hI : IsInts 0 w.heap.size w a len g) (hT : IsTrains 0 w.heap.size w a' len' f) (hg : w.cell? ⟨0, 0, none⟩ = some (.iface 93 (.agg #[.pointer (some ⟨1, 53, none⟩)]))) :
    Calls Tryd.prog 13 #[.agg #[.slice a len cap, .int .i64 gap, .slice a' len' cap'], .int .i64 i] w fun e w' => e = .returned (.int .i64 (aloneOf len g gap len' f i)) ∧ Below w.heap.size w w' := by
  have hg1 := cellLater (b1 w (.cells #[.slice a len cap, .int .i64 gap, .slice a' len' cap'] 32)) hg
  by_cases hF : (faultOf len g gap len' f).1 = 0
  · have hF0 := faultOf_snd hF
    have hR := rightL_of hF0
    have hF1 : Hid (faultOf len g gap len' f = (0, 0)) := hF0
    cases hi : inB i 0 (len' - 1)
    · have hA : aloneOf len g gap len' f i = -1 := by unfold aloneOf; rw [if_neg (by simp [hi])]
      rw [hA]
      clear hF hF0 hA
      go_enter Tryd.func13, Tryd.ntmps13
      go_wp2_with (first | (go_at_call 29; refine (isRight_yes _ _ _ g _ _ _ _ f _ hl hl' hml (hI.grow (b1 _ _)) (hT.grow (b1 _ _)) hg1 hF1).mono ?_; rintro e w2 ⟨rfl, hB2⟩; obtain ⟨hc, hf⟩ := bcell hB2; have hBx := Below.join (b1 w _) (Nat.le_refl _) hB2) | (go_at_call 30; refine (within_any _ _ _ _).mono ?_; rintro e w' ⟨rfl, rfl⟩))
      go_ret
      exact ⟨rfl, hBx⟩
    · have hA : aloneOf len g gap len' f i = endOf (f i.toNat) := by unfold aloneOf; rw [if_pos ⟨hF, hi⟩]
      rw [hA]
      have hib := of_decide_eq_true hi
      obtain ⟨k, rfl⟩ : ∃ k : Nat, i = (k : Int) := ⟨i.toNat, by omega⟩
      rw [Int.toNat_natCast]
      have hk : k < len' := by omega
      have hRk := hR.train k hk
      clear hF hF0 hA hib
      have hk' : (k : Int) < (len' : Int) := by omega
      obtain ⟨b, off, la, lc, rfl, _, _, c0, c1, c2, c3, c4, hlg, _⟩ := hT k hk
      go_enter Tryd.func13, Tryd.ntmps13
      go_wp2_with (first | (go_at_call 29; refine (isRight_yes _ _ _ g _ _ _ _ f _ hl hl' hml (hI.grow (b1 _ _)) (hT.grow (b1 _ _)) hg1 hF1).mono ?_; rintro e w2 ⟨rfl, hB2⟩; have hBx := Below.join (b1 w _) (Nat.le_refl _) hB2; have q2 := cellLater hB2 (new3 w _ _ _ _).2.2; replace c0 := cellLater hBx c0; replace c1 := cellLater hBx c1; replace c2 := cellLater hBx c2; replace c3 := cellLater hBx c3; replace c4 := cellLater hBx c4; replace hlg := hlg.grow hBx) | (go_at_call 30; refine (within_any _ _ _ _).mono ?_; rintro e w' ⟨rfl, rfl⟩) | (go_at_call 31; refine (endAlone_any (f k) _ _ _ hRk hlg).mono ?_; rintro e w3 ⟨rfl, hB3⟩))
      go_ret
      exact ⟨rfl, Below.join hBx (Nat.le_refl _) hB3⟩
  · have hA : aloneOf len g gap len' f i = -1 := by unfold aloneOf; rw [if_neg (by simp [hF])]
    rw [hA]
    have hF1 : Hid ((faultOf len g gap len' f).1 ≠ 0) := hF
    clear hF hA
    go_enter Tryd.func13, Tryd.ntmps13
    go_wp2_with (go_at_call 29; refine (isRight_no _ _ _ g _ _ _ _ f _ hl hl' hml (hI.grow (b1 _ _)) (hT.grow (b1 _ _)) hg1 hF1.out).mono ?_; rintro e w2 ⟨rfl, hB2⟩)
    go_ret
    exact ⟨rfl, Below.join (b1 _ _) (Nat.le_refl _) hB2⟩

theorem sumW_cost (f : Nat → TrainD) (n : Nat) (hn : n ≤ 5) (hR : ∀ j, j < n → RightT (f j)) : ∀ k, k ≤ n → sumW (upto (fun j => lateOf (f j) (endOf (f j))) k) = costSum f k
  | 0, _ => by simp [upto, sumW, costSum]
  | k + 1, hk => by
    rw [upto_succ, sumW_snoc, sumW_cost f n hn hR k (by omega)]
    have h1 := costSum_bd hR k (by omega)
    have h2 := endOf_bd (hR k (by omega))
    have h3 := lateOf_bd (hR k (by omega)) h2.1 h2.2
    have hw : wrap64 (costSum f k + lateOf (f k) (endOf (f k))) = costSum f k + lateOf (f k) (endOf (f k)) := by unfold wrap64; omega
    rw [hw]; rfl

theorem sumCost_at (a' : Option Addr) (len' cap' : Nat) (f : Nat → TrainD) (w : World) (hn : len' ≤ 5) (hR : ∀ j, j < len' → RightT (f j)) (hT : IsTrains 0 w.heap.size w a' len' f) :
    Calls Tryd.prog 33 #[.func (.func 48) #[] #[.pointer (some ⟨w.heap.size, 0, none⟩), .pointer (some ⟨w.heap.size + 1, 0, none⟩)]] ((w.alloc (.cells #[.slice a' len' cap'] 30)).alloc (.cells #[.func (.func 35) #[] #[]] 59))
      fun e w' => e = .returned (.int .i64 (costSum f len')) ∧ Below w.heap.size w w' := by
  have h := sumT_any 35 a' len' cap' f (fun j => lateOf (f j) (endOf (f j))) (by omega) (enters_of Tryd.func35 (by kernel_rfl) rfl) (fun j hj la lc W hL => costAlone_any (f j) la lc W (hR j hj) hL) w.heap.size (w.heap.size + 1) ((w.alloc (.cells #[.slice a' len' cap'] 30)).alloc (.cells #[.func (.func 35) #[] #[]] 59)) (by rw [World.cell?_alloc_lt _ _ ⟨w.heap.size, 0, none⟩ (by simp), World.cell?_alloc_at _ _ _ _ rfl]; rfl) (by rw [World.cell?_alloc_at _ _ _ _ (by simp)]; rfl) (hT.grow (b2 _ _ _))
  rw [sumW_cost f len' hn hR len' (Nat.le_refl _)] at h
  exact h.mono fun e w' ⟨he, hb⟩ => ⟨he, Below.join (b2 _ _ _) (Nat.le_refl _) hb⟩

set_option maxHeartbeats 2000000 in
theorem implLeast_any (a : Option Addr) (len cap : Nat) (g : Nat → Int) (gap : Int) (a' : Option Addr) (len' cap' : Nat) (f : Nat → TrainD) (w : World) (hl : len ≤ 1048576) (hl' : len' ≤ 1048576) (hml : ∀ j, j < len' → (f j).nl ≤ 1048576)
    (hI : IsInts 0 w.heap.size w a len g) (hT : IsTrains 0 w.heap.size w a' len' f) (hg : w.cell? ⟨0, 0, none⟩ = some (.iface 93 (.agg #[.pointer (some ⟨1, 53, none⟩)]))) :
    Calls Tryd.prog 15 #[.agg #[.slice a len cap, .int .i64 gap, .slice a' len' cap']] w fun e w' => e = .returned (.int .i64 (leastOf len g gap len' f)) ∧ Below w.heap.size w w' := by
  have hg1 := cellLater (b1 w (.cells #[.slice a len cap, .int .i64 gap, .slice a' len' cap'] 32)) hg
  by_cases hF : (faultOf len g gap len' f).1 = 0
  · have hF0 := faultOf_snd hF
    have hR := rightL_of hF0
    have hF1 : Hid (faultOf len g gap len' f = (0, 0)) := hF0
    have hA : leastOf len g gap len' f = costSum f len' := by unfold leastOf; rw [if_pos hF]
    rw [hA]
    have htr := hR.tr
    clear hF hF0 hA
    go_enter Tryd.func15, Tryd.ntmps15
    go_wp2_with (first | (go_at_call 29; refine (isRight_yes _ _ _ g _ _ _ _ f _ hl hl' hml (hI.grow (b1 _ _)) (hT.grow (b1 _ _)) hg1 hF1).mono ?_; rintro e w2 ⟨rfl, hB2⟩; have hBx := Below.join (b1 w _) (Nat.le_refl _) hB2; have q2 := cellLater hB2 (new3 w _ _ _ _).2.2) | (go_at_call 34; refine (eachT_any _ _ _ _ _).mono ?_; rintro e w' ⟨rfl, rfl⟩) | (go_at_call 33; refine (sumCost_at _ _ _ f _ htr hR.train (hT.grow hBx)).mono ?_; rintro e w4 ⟨rfl, hB4⟩))
    go_ret
    exact ⟨rfl, Below.join hBx (Nat.le_refl _) hB4⟩
  · have hA : leastOf len g gap len' f = -1 := by unfold leastOf; rw [if_neg (by simp [hF])]
    rw [hA]
    have hF1 : Hid ((faultOf len g gap len' f).1 ≠ 0) := hF
    clear hF hA
    go_enter Tryd.func15, Tryd.ntmps15
    go_wp2_with (go_at_call 29; refine (isRight_no _ _ _ g _ _ _ _ f _ hl hl' hml (hI.grow (b1 _ _)) (hT.grow (b1 _ _)) hg1 hF1.out).mono ?_; rintro e w2 ⟨rfl, hB2⟩)
    go_ret
    exact ⟨rfl, Below.join (b1 _ _) (Nat.le_refl _) hB2⟩
end Go.Proofs.YtafbnkhdfnnpmaaDoor
