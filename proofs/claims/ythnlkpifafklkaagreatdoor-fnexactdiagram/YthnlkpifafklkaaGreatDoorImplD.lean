/-
  The first clash by the program's way of looking is the first clash. The program's Check, at every argument.
-/
import Derived.Test.YthnlkpifafklkaaGreatDoorImplC
namespace Go.Proofs.YthnlkpifafklkaaGreatDoor
open Go.RowKit

theorem firstBad_congr {p q : Nat → Bool} : ∀ {n : Nat}, (∀ j, j < n → p j = q j) → firstBad p n = firstBad q n
  | 0, _ => rfl
  | n + 1, h => by rw [firstBad, firstBad, firstBad_congr (n := n) (fun j hj => h j (by omega)), h n (by omega)]
theorem firstBad_spec {p : Nat → Bool} : ∀ {n k : Nat}, firstBad p n = some k → k < n ∧ p k = false
  | n + 1, k, h => by
    rw [firstBad] at h
    cases hF : firstBad p n with
    | some i =>
      rw [hF] at h
      obtain ⟨h1, h2⟩ := firstBad_spec hF
      cases h
      exact ⟨by omega, h2⟩
    | none =>
      rw [hF] at h
      cases hp : p n with
      | true => rw [hp] at h; cases h
      | false =>
        rw [hp] at h
        simp at h
        subst h
        exact ⟨by omega, hp⟩
theorem first2_congr {n : Nat} {len : Nat → Nat} {p q : Nat → Nat → Bool} (h : ∀ i, i < n → ∀ k, k < len i → p i k = q i k) : first2 n len p = first2 n len q := by
  have h1 : ∀ i, i < n → firstBad (p i) (len i) = firstBad (q i) (len i) := fun i hi => firstBad_congr (h i hi)
  have h2 : firstBad (fun i => (firstBad (p i) (len i)).isNone) n = firstBad (fun i => (firstBad (q i) (len i)).isNone) n := firstBad_congr (fun i hi => by rw [h1 i hi])
  unfold first2
  rw [h2]
  cases hF : firstBad (fun i => (firstBad (q i) (len i)).isNone) n with
  | none => rfl
  | some i =>
    obtain ⟨hi, _⟩ := firstBad_spec hF
    simp only [h1 i hi]
theorem first2_spec {n : Nat} {len : Nat → Nat} {p : Nat → Nat → Bool} {i k : Nat} (h : first2 n len p = some (i, k)) : i < n ∧ k < len i ∧ p i k = false := by
  unfold first2 at h
  cases hF : firstBad (fun i => (firstBad (p i) (len i)).isNone) n with
  | none => rw [hF] at h; cases h
  | some j =>
    rw [hF] at h
    simp only at h
    cases hG : firstBad (p j) (len j) with
    | none => rw [hG] at h; cases h
    | some m =>
      rw [hG] at h
      cases h
      exact ⟨(firstBad_spec hF).1, firstBad_spec hG⟩
theorem first2_all {n : Nat} {len : Nat → Nat} {p : Nat → Nat → Bool} (h : first2 n len p = none) : ∀ i, i < n → ∀ k, k < len i → p i k = true := by
  intro i hi k hk
  unfold first2 at h
  cases hF : firstBad (fun i => (firstBad (p i) (len i)).isNone) n with
  | none =>
    have h1 := firstBad_all hF i hi
    exact firstBad_all (Option.isNone_iff_eq_none.1 h1) k hk
  | some j =>
    rw [hF] at h
    simp only at h
    have h2 := (firstBad_spec hF).2
    cases hG : firstBad (p j) (len j) with
    | none => rw [hG] at h2; cases h2
    | some m => rw [hG] at h; cases h

theorem takenC_eq (gap : Int) (np : Nat) (f : Nat → TrainD) (P : Nat → RowD) (i k : Nat) : takenC gap np f P i k = match withOf gap np f P i k with | some j => (3, (i : Int), (k : Int), (j : Int)) | none => (0, 0, 0, 0) := by
  unfold takenC
  cases hF : (listT gap np f P (trackOf (f i) k)).find? (hitB i ((P i).s k)) with
  | none =>
    rw [withOf_list_none (fun x hx => by have := List.find?_eq_none.1 hF x hx; simpa using this)]
  | some h =>
    obtain ⟨hp, L1, L2, e, hn⟩ := List.find?_eq_some_iff_append.1 hF
    rw [withOf_list_some e hp (fun y hy => by have := hn y hy; simpa using this)]

theorem leaves_ge {len np : Nat} {f : Nat → TrainD} {P : Nat → RowD} (hR : RightL len np f) (hQ : RightP np f np P) (h2 : ∀ i, i < np → ∀ k, k < (f i).nl → readyOf f P i k ≤ (P i).s k) {i : Nat} (hi : i < np) : ∀ m, m < (f i).nl → (P i).s m ≤ leavesOf f P i m := by
  intro m hm
  have h1 := (hR.train i hi).leg m hm
  unfold leavesOf
  rw [hQ.row i hi]
  split
  · rename_i hlt
    have h3 := h2 i hi (m + 1) hlt
    have h4 := (hR.train i hi).leg (m + 1) hlt
    simp only [readyOf] at h3
    omega
  · omega

theorem orC_clash {len np : Nat} {g : Nat → Int} {gap : Int} {f : Nat → TrainD} {P : Nat → RowD} (hF : faultOf len g gap np f = (0, 0)) (hS : shapeB np f np P = true) : orC (three g gap np f P) = clashOf len g gap np f np P := by
  have hR := rightL_of hF
  have hQ := rightP_of hS
  unfold clashOf
  rw [if_pos ⟨by rw [hF], hS⟩]
  have eA : ∀ i k, decide ((soonC f P i k).1 = 0) = decide (readyOf f P i k ≤ (P i).s k) := fun i k => by
    unfold soonC
    split
    · rw [decide_eq_false (by simp), decide_eq_false (by omega)]
    · rw [decide_eq_true (by simp), decide_eq_true (by omega)]
  have eB : ∀ i k, decide ((takenC gap np f P i k).1 = 0) = (withOf gap np f P i k).isNone := fun i k => by
    rw [takenC_eq]
    cases withOf gap np f P i k <;> simp
  have hA : first2 np (fun i => (f i).nl) (fun i k => decide ((soonC f P i k).1 = 0)) = first2 np (fun i => (f i).nl) (fun i k => decide (readyOf f P i k ≤ (P i).s k)) := first2_congr (fun i _ k _ => eA i k)
  have hB : first2 np (fun i => (f i).nl) (fun i k => decide ((takenC gap np f P i k).1 = 0)) = first2 np (fun i => (f i).nl) (fun i k => (withOf gap np f P i k).isNone) := first2_congr (fun i _ k _ => eB i k)
  unfold orC three
  simp only [tri]
  cases h2 : first2 np (fun i => (f i).nl) (fun i k => decide (readyOf f P i k ≤ (P i).s k)) with
  | some ik =>
    obtain ⟨i, k⟩ := ik
    have hb := (first2_spec h2).2.2
    have e : firstC np (fun i => (f i).nl) (soonC f P) = (2, (i : Int), (k : Int), 0) := by
      unfold firstC
      rw [hA, h2]
      simp only
      unfold soonC
      rw [if_pos (by have := of_decide_eq_false hb; omega)]
    rw [e]
    simp
  | none =>
    have hall := first2_all h2
    have e : firstC np (fun i => (f i).nl) (soonC f P) = (0, 0, 0, 0) := by
      unfold firstC
      rw [hA, h2]
    rw [e]
    simp only [ne_eq, not_true_eq_false, if_false]
    cases h3 : first2 np (fun i => (f i).nl) (fun i k => (withOf gap np f P i k).isNone) with
    | some ik =>
      obtain ⟨i, k⟩ := ik
      have hb := (first2_spec h3).2.2
      have e : firstC np (fun i => (f i).nl) (takenC gap np f P) = (3, (i : Int), (k : Int), (((withOf gap np f P i k).getD 0 : Nat) : Int)) := by
        unfold firstC
        rw [hB, h3]
        simp only
        rw [takenC_eq]
        cases hw : withOf gap np f P i k with
        | none => rw [hw] at hb; cases hb
        | some j => rfl
      rw [e]
      simp
    | none =>
      have e : firstC np (fun i => (f i).nl) (takenC gap np f P) = (0, 0, 0, 0) := by
        unfold firstC
        rw [hB, h3]
      rw [e]
      simp only [not_true_eq_false, if_false]
      have eC : ∀ i, i < np → ∀ k, k < (f i).nl → fullC g np f P i k = if fullB g np f P i k = true then (4, (i : Int), (k : Int), 0) else (0, 0, 0, 0) := fun i hi k hk => by
        have hc := countAll_list (k := k) (leaves_ge hR hQ (fun i hi k hk => of_decide_eq_true (hall i hi k hk)) hi) np
        unfold fullC fullB listS
        rw [hc]
        simp only [decide_eq_true_eq]
      have hC : first2 np (fun i => (f i).nl) (fun i k => decide ((fullC g np f P i k).1 = 0)) = first2 np (fun i => (f i).nl) (fun i k => !fullB g np f P i k) := first2_congr (fun i hi k hk => by
        rw [eC i hi k hk]
        cases fullB g np f P i k <;> simp)
      cases h4 : first2 np (fun i => (f i).nl) (fun i k => !fullB g np f P i k) with
      | some ik =>
        obtain ⟨i, k⟩ := ik
        obtain ⟨hi, hk, hb⟩ := first2_spec h4
        have e : firstC np (fun i => (f i).nl) (fullC g np f P) = (4, (i : Int), (k : Int), 0) := by
          unfold firstC
          rw [hC, h4]
          simp only
          rw [eC i hi k hk, if_pos (by simpa using hb)]
        rw [e]
        simp
      | none =>
        have e : firstC np (fun i => (f i).nl) (fullC g np f P) = (0, 0, 0, 0) := by
          unfold firstC
          rw [hC, h4]
        rw [e]
        simp

theorem clashOf_no {nt : Nat} {g : Nat → Int} {gap : Int} {ntr : Nat} {f : Nat → TrainD} {np : Nat} {P : Nat → RowD} (h : ¬ ((faultOf nt g gap ntr f).1 = 0 ∧ shapeB ntr f np P = true)) : clashOf nt g gap ntr f np P = (1, 0, 0, 0) := by
  unfold clashOf; rw [if_neg h]

set_option maxRecDepth 20000 in
set_option maxHeartbeats 4000000 in
theorem implCheck_line (a : Option Addr) (len cap : Nat) (g : Nat → Int) (gap : Int) (a' : Option Addr) (len' cap' : Nat) (f : Nat → TrainD) (c : Option Addr) (np nc : Nat) (w : World) (hl : len ≤ 1048576) (hl' : len' ≤ 1048576) (hml : ∀ j, j < len' → (f j).nl ≤ 1048576)
    (hI : IsInts 0 w.heap.size w a len g) (hT : IsTrains 0 w.heap.size w a' len' f) (hg : w.cell? ⟨0, 0, none⟩ = some (.iface 184 (.agg #[.pointer (some ⟨10, 129, none⟩)]))) (hF : Hid ((faultOf len g gap len' f).1 ≠ 0)) :
    Calls Tryz.prog 55 #[.agg #[.slice a len cap, .int .i64 gap, .slice a' len' cap'], .agg #[.slice c np nc]] w fun e w' => e = .returned (.agg #[.int .i64 1, .int .i64 0, .int .i64 0, .int .i64 0]) ∧ Below w.heap.size w w' := by
  have hX := Boxes.new w a len cap gap a' len' cap' c np nc 35 29 86
  have hg1 := cellLater (b3 w (.cells #[.slice a len cap, .int .i64 gap, .slice a' len' cap'] 35) (.cells #[.slice c np nc] 29) (.cells #[.int .i64 0, .int .i64 0, .int .i64 0, .int .i64 0] 86)) hg
  go_enter Tryz.func55, Tryz.ntmps55
  go_wp2_with (go_at_call 84; refine (hasShape_no _ _ _ g _ _ _ _ f _ _ _ _ hl hl' hml (hI.grow (b3 _ _ _ _)) (hT.grow (b3 _ _ _ _)) hg1 hF).mono ?_; rintro _ w2 ⟨rfl, hB2⟩; have hB := Below.join (b3 w _ _ _) (Nat.le_refl _) hB2; replace hX := hX.later hB2; have r0 := hX.r0; have r1 := hX.r1; have r2 := hX.r2; have r3 := hX.r3; have z0 := hX.z0; have z1 := hX.z1; have z2 := hX.z2; have z3 := hX.z3)
  refine bodyPost_ret (v := .agg #[.int .i64 1, .int .i64 0, .int .i64 0, .int .i64 0]) (by simp [results, Tryz.results55, go_sem, r0, r1, r2, r3]) rfl ⟨rfl, ?_⟩
  exact below_set4 hB (by omega) _ _ _ _

set_option maxRecDepth 20000 in
set_option maxHeartbeats 4000000 in
theorem implCheck_shape (a : Option Addr) (len cap : Nat) (g : Nat → Int) (gap : Int) (a' : Option Addr) (len' cap' : Nat) (f : Nat → TrainD) (c : Option Addr) (np nc : Nat) (P : Nat → RowD) (w : World) (hl : len ≤ 1048576) (hl' : len' ≤ 1048576) (hml : ∀ j, j < len' → (f j).nl ≤ 1048576) (hp : np ≤ 1048576) (hmp : ∀ j, j < np → (P j).n ≤ 1048576)
    (hI : IsInts 0 w.heap.size w a len g) (hT : IsTrains 0 w.heap.size w a' len' f) (hP : IsRows 0 w.heap.size w c np P) (hg : w.cell? ⟨0, 0, none⟩ = some (.iface 184 (.agg #[.pointer (some ⟨10, 129, none⟩)]))) (hF : Hid (faultOf len g gap len' f = (0, 0))) (hS : shapeB len' f np P = false) :
    Calls Tryz.prog 55 #[.agg #[.slice a len cap, .int .i64 gap, .slice a' len' cap'], .agg #[.slice c np nc]] w fun e w' => e = .returned (.agg #[.int .i64 1, .int .i64 0, .int .i64 0, .int .i64 0]) ∧ Below w.heap.size w w' := by
  have hX := Boxes.new w a len cap gap a' len' cap' c np nc 35 29 86
  have hg1 := cellLater (b3 w (.cells #[.slice a len cap, .int .i64 gap, .slice a' len' cap'] 35) (.cells #[.slice c np nc] 29) (.cells #[.int .i64 0, .int .i64 0, .int .i64 0, .int .i64 0] 86)) hg
  go_enter Tryz.func55, Tryz.ntmps55
  go_wp2_with (go_at_call 84; refine (hasShape_yes _ _ _ g _ _ _ _ f _ _ _ P _ hl hl' hp hml hmp (hI.grow (b3 _ _ _ _)) (hT.grow (b3 _ _ _ _)) (hP.grow (b3 _ _ _ _)) hg1 hF).mono ?_; rw [hS]; rintro _ w2 ⟨rfl, hB2⟩; have hB := Below.join (b3 w _ _ _) (Nat.le_refl _) hB2; replace hX := hX.later hB2; have r0 := hX.r0; have r1 := hX.r1; have r2 := hX.r2; have r3 := hX.r3; have z0 := hX.z0; have z1 := hX.z1; have z2 := hX.z2; have z3 := hX.z3)
  refine bodyPost_ret (v := .agg #[.int .i64 1, .int .i64 0, .int .i64 0, .int .i64 0]) (by simp [results, Tryz.results55, go_sem, r0, r1, r2, r3]) rfl ⟨rfl, ?_⟩
  exact below_set4 hB (by omega) _ _ _ _

/-- the program's Check -/
theorem implCheck_any (a : Option Addr) (len cap : Nat) (g : Nat → Int) (gap : Int) (a' : Option Addr) (len' cap' : Nat) (f : Nat → TrainD) (c : Option Addr) (np nc : Nat) (P : Nat → RowD) (w : World) (hl : len ≤ 1048576) (hl' : len' ≤ 1048576) (hml : ∀ j, j < len' → (f j).nl ≤ 1048576) (hp : np ≤ 1048576) (hmp : ∀ j, j < np → (P j).n ≤ 1048576)
    (hI : IsInts 0 w.heap.size w a len g) (hT : IsTrains 0 w.heap.size w a' len' f) (hP : IsRows 0 w.heap.size w c np P) (hC : Caps w c np) (hg : w.cell? ⟨0, 0, none⟩ = some (.iface 184 (.agg #[.pointer (some ⟨10, 129, none⟩)]))) :
    Calls Tryz.prog 55 #[.agg #[.slice a len cap, .int .i64 gap, .slice a' len' cap'], .agg #[.slice c np nc]] w fun e w' => e = .returned (clashV (clashOf len g gap len' f np P)) ∧ Below w.heap.size w w' := by
  by_cases hF : (faultOf len g gap len' f).1 = 0
  · have hF0 := faultOf_snd hF
    cases hS : shapeB len' f np P
    · rw [clashOf_no (by simp [hS])]
      exact implCheck_shape a len cap g gap a' len' cap' f c np nc P w hl hl' hml hp hmp hI hT hP hg hF0 hS
    · obtain rfl : np = len' := (rightP_of hS).np
      have h := implCheck_main a len cap g gap a' np cap' f c nc P w hl hp hml hmp hI hT hP hC hg hF0 hS
      rw [orC_clash hF0 hS] at h
      exact h
  · rw [clashOf_no (by simp [hF])]
    exact implCheck_line a len cap g gap a' len' cap' f c np nc w hl hl' hml hI hT hg hF
end Go.Proofs.YthnlkpifafklkaaGreatDoor
