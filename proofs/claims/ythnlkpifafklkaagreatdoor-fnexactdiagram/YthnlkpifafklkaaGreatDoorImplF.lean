/-
  The program's way through all legs: the first clash that a look finds.
-/
import Derived.Test.YthnlkpifafklkaaGreatDoorImplZ
namespace Go.Proofs.YthnlkpifafklkaaGreatDoor
open Go.RowKit

def firstC (np : Nat) (nl : Nat → Nat) (v : Nat → Nat → Int × Int × Int × Int) : Int × Int × Int × Int :=
  match first2 np nl (fun i k => decide ((v i k).1 = 0)) with
  | some (i, k) => v i k
  | none => (0, 0, 0, 0)
theorem firstC_none {np : Nat} {nl : Nat → Nat} {v : Nat → Nat → Int × Int × Int × Int} (h : ∀ j, j < np → ∀ m, m < nl j → v j m = (0, 0, 0, 0)) : firstC np nl v = (0, 0, 0, 0) := by
  unfold firstC
  rw [first2_none (fun j hj m hm => by rw [h j hj m hm]; rfl)]
theorem firstC_some {np : Nat} {nl : Nat → Nat} {v : Nat → Nat → Int × Int × Int × Int} {i k : Nat} (hi : i < np) (hk : k < nl i) (hb : (v i k).1 ≠ 0) (hrow : ∀ m, m < k → v i m = (0, 0, 0, 0)) (h : ∀ j, j < i → ∀ m, m < nl j → v j m = (0, 0, 0, 0)) : firstC np nl v = v i k := by
  unfold firstC
  rw [first2_some (p := fun i k => decide ((v i k).1 = 0)) hi hk (decide_eq_false hb) (fun m hm => by rw [hrow m hm]; rfl) (fun j hj m hm => by rw [h j hj m hm]; rfl)]

set_option maxRecDepth 20000 in
set_option maxHeartbeats 8000000 in
theorem firstSoon_any (a : Option Addr) (len cap : Nat) (a' : Option Addr) (np cap' : Nat) (f : Nat → TrainD) (c : Option Addr) (nc bT bS : Nat) (v : Nat → Nat → Int × Int × Int × Int) (w : World)
    (hR : RightL len np f) (hT : IsTrains 0 w.heap.size w a' np f) (hv : ∀ i k, i < np → k < (f i).nl → v i k = (0, 0, 0, 0) ∨ (v i k).1 ≠ 0)
    (hlook : ∀ (i k : Nat) (W : World), i < np → k < (f i).nl → Below w.heap.size w W → Calls Tryz.prog 88 #[.agg #[.slice a' np cap', .slice c np nc, .slice a len cap, .map (some bT), .map (some bS)], .int .i64 i, .int .i64 k] W fun e W' => e = .returned (clashV (v i k)) ∧ Below W.heap.size W W') :
    Calls Tryz.prog 87 #[.agg #[.slice a' np cap', .slice c np nc, .slice a len cap, .map (some bT), .map (some bS)], .func (.func 88) #[.agg #[.slice a' np cap', .slice c np nc, .slice a len cap, .map (some bT), .map (some bS)]] #[]] w fun e w' => e = .returned (clashV (firstC np (fun i => (f i).nl) v)) ∧ Below w.heap.size w w' := by
  have hX := LookBox.new w a len cap a' np cap' c nc bT bS 136 86
  have hN := b2 w (.cells #[.slice a' np cap', .slice c np nc, .slice a len cap, .map (some bT), .map (some bS)] 136) (.cells #[.int .i64 0, .int .i64 0, .int .i64 0, .int .i64 0] 86)
  have htr := hR.tr
  obtain ⟨vv, hE⟩ : ∃ vv, firstC np (fun i => (f i).nl) v = vv := ⟨_, rfl⟩
  rw [hE]
  go_enter Tryz.func87, Tryz.ntmps87
  go_wp2
  refine nameW fun W0 hW => ?_
  rw [← hW] at hX hN
  clear hW
  go_loopw [12] (fun ii wr => ∃ (i : Nat), i ≤ np ∧ ii = .int .i64 i ∧ (∀ j, j < i → ∀ m, m < (f j).nl → v j m = (0, 0, 0, 0)) ∧ LookBox w wr a len cap a' np cap' c nc bT bS ∧ Below w.heap.size w wr) (fun ii _ => np - (intOf ii).toNat)
  case atStart => exact ⟨0, Nat.zero_le _, rfl, fun _ h => by omega, hX, hN⟩
  case round =>
    clear hX hN
    obtain ⟨i, hi, rfl, hall, hX, hB⟩ := hrel
    by_cases hlt : i < np
    · obtain ⟨b, off, la, lc, rfl, _, hb, t0, t1, t2, t3, t4, hlg, _⟩ := hT i hlt
      have hnl := (hR.train i hlt).nl
      have hin' : (i : Int) < (np : Int) := by omega
      have hi0 : (0 : Int) ≤ (i : Int) := by omega
      replace t0 := cellLater hB t0
      replace t1 := cellLater hB t1
      replace t2 := cellLater hB t2
      replace t3 := cellLater hB t3
      replace t4 := cellLater hB t4
      have hA := b1 wr (.cells #[.int .i64 (f i).frm, .int .i64 (f i).ready, .int .i64 (f i).due, .int .i64 (f i).weight, .slice la (f i).nl lc] 90)
      go_wp2
      refine nameW fun V hV => ?_
      rw [← hV] at hA
      clear hV t0 t1 t2 t3 t4
      replace hX := hX.later hA
      replace hB := Below.join hB (Nat.le_refl _) hA
      clear hA
      go_loopw [20] (fun kk wr2 => ∃ (k : Nat), k ≤ (f i).nl ∧ kk = .int .i64 k ∧ (∀ m, m < k → v i m = (0, 0, 0, 0)) ∧ LookBox w wr2 a len cap (some ⟨b, off, none⟩) np cap' c nc bT bS ∧ Below w.heap.size w wr2) (fun kk _ => (f i).nl - (intOf kk).toNat)
      case atStart => exact ⟨0, Nat.zero_le _, rfl, fun _ h => by omega, hX, hB⟩
      case round =>
        clear hX hB
        obtain ⟨k, hk, rfl, hall2, hX, hB⟩ := hrel
        by_cases hlt2 : k < (f i).nl
        · have hkn : (k : Int) < ((f i).nl : Int) := by omega
          have hl := hlook i k wr hlt hlt2 hB
          rcases hv i k hlt hlt2 with hz | hz
          · rw [hz] at hl
            dsimp only [clashV] at hl
            go_wp2_with (go_at_call 88; refine hl.mono ?_; rintro _ W4 ⟨rfl, hB4⟩)
            go_roundw
            case rel => exact ⟨k + 1, by omega, by go_num, fun m hm => (by by_cases e : m = k; (· subst e; exact hz); (· exact hall2 m (by omega))), (hX.later hB4).later (b1 _ _), Below.join (Below.join hB (Nat.le_refl _) hB4) (Nat.le_refl _) (b1 _ _)⟩
            case measure => simp [intOf]; omega
          · have hve := hE.symm.trans (firstC_some (nl := fun i => (f i).nl) hlt hlt2 hz hall2 hall)
            generalize v i k = vq at hl hz hve
            obtain ⟨v0, v1, v2, v3⟩ := vq
            dsimp only at hz
            have hz' : (v0 == 0) = false := by simpa using hz
            dsimp only [clashV] at hl
            go_wp2_with (go_at_call 88; refine hl.mono ?_; rintro _ W4 ⟨rfl, hB4⟩; replace hX := hX.later hB4; have r0 := hX.r0; have r1 := hX.r1; have r2 := hX.r2; have r3 := hX.r3; have z0 := hX.z0; have z1 := hX.z1; have z2 := hX.z2; have z3 := hX.z3; have lw : w.heap.size + 1 < W4.heap.size := ltCell r0)
            refine bodyPost_ret (v := .agg #[.int .i64 v0, .int .i64 v1, .int .i64 v2, .int .i64 v3]) (by simp [results, Tryz.results87, go_sem, r0, r1, r2, r3, lw, World.cell?_alloc_lt]) rfl ⟨by first | (rw [hve]; rfl) | (subst hve; rfl), ?_⟩
            exact (below_set4 (Below.join hB (Nat.le_refl _) hB4) (by omega) _ _ _ _).alloc (by simp; omega) _
        · have hke : Hid (k = (f i).nl) := (by omega : k = (f i).nl)
          have hkn : ((f i).nl : Int) ≤ (k : Int) := by omega
          clear hlt2 hk
          go_wp2
          go_roundw
          case rel => exact ⟨i + 1, by omega, by go_num, fun j hj => (by by_cases e : j = i; (· subst e; intro m hm; exact hall2 m (by rw [hke.out]; exact hm)); (· exact hall j (by omega))), hX, hB⟩
          case measure => simp [intOf]; omega
    · have hie : Hid (i = np) := (by omega : i = np)
      have hin' : (np : Int) ≤ (i : Int) := by omega
      have hve := hE.symm.trans (firstC_none (nl := fun i => (f i).nl) (fun j hj => hall j (by rw [hie.out]; exact hj)))
      have r0 := hX.r0
      have r1 := hX.r1
      have r2 := hX.r2
      have r3 := hX.r3
      have z0 := hX.z0
      have z1 := hX.z1
      have z2 := hX.z2
      have z3 := hX.z3
      clear hlt hi hall
      go_wp2
      refine bodyPost_ret (v := .agg #[.int .i64 0, .int .i64 0, .int .i64 0, .int .i64 0]) (by simp [results, Tryz.results87, go_sem, r0, r1, r2, r3]) rfl ⟨by first | (rw [hve]; rfl) | (subst hve; rfl), ?_⟩
      exact below_set4 hB (by omega) _ _ _ _

set_option maxRecDepth 20000 in
set_option maxHeartbeats 8000000 in
theorem firstTaken_any (a : Option Addr) (len cap : Nat) (a' : Option Addr) (np cap' : Nat) (f : Nat → TrainD) (c : Option Addr) (nc bT bS : Nat) (v : Nat → Nat → Int × Int × Int × Int) (w : World)
    (hR : RightL len np f) (hT : IsTrains 0 w.heap.size w a' np f) (hv : ∀ i k, i < np → k < (f i).nl → v i k = (0, 0, 0, 0) ∨ (v i k).1 ≠ 0)
    (hlook : ∀ (i k : Nat) (W : World), i < np → k < (f i).nl → Below w.heap.size w W → Calls Tryz.prog 89 #[.agg #[.slice a' np cap', .slice c np nc, .slice a len cap, .map (some bT), .map (some bS)], .int .i64 i, .int .i64 k] W fun e W' => e = .returned (clashV (v i k)) ∧ Below W.heap.size W W') :
    Calls Tryz.prog 87 #[.agg #[.slice a' np cap', .slice c np nc, .slice a len cap, .map (some bT), .map (some bS)], .func (.func 89) #[.agg #[.slice a' np cap', .slice c np nc, .slice a len cap, .map (some bT), .map (some bS)]] #[]] w fun e w' => e = .returned (clashV (firstC np (fun i => (f i).nl) v)) ∧ Below w.heap.size w w' := by
  have hX := LookBox.new w a len cap a' np cap' c nc bT bS 136 86
  have hN := b2 w (.cells #[.slice a' np cap', .slice c np nc, .slice a len cap, .map (some bT), .map (some bS)] 136) (.cells #[.int .i64 0, .int .i64 0, .int .i64 0, .int .i64 0] 86)
  have htr := hR.tr
  obtain ⟨vv, hE⟩ : ∃ vv, firstC np (fun i => (f i).nl) v = vv := ⟨_, rfl⟩
  rw [hE]
  go_enter Tryz.func87, Tryz.ntmps87
  go_wp2
  refine nameW fun W0 hW => ?_
  rw [← hW] at hX hN
  clear hW
  go_loopw [12] (fun ii wr => ∃ (i : Nat), i ≤ np ∧ ii = .int .i64 i ∧ (∀ j, j < i → ∀ m, m < (f j).nl → v j m = (0, 0, 0, 0)) ∧ LookBox w wr a len cap a' np cap' c nc bT bS ∧ Below w.heap.size w wr) (fun ii _ => np - (intOf ii).toNat)
  case atStart => exact ⟨0, Nat.zero_le _, rfl, fun _ h => by omega, hX, hN⟩
  case round =>
    clear hX hN
    obtain ⟨i, hi, rfl, hall, hX, hB⟩ := hrel
    by_cases hlt : i < np
    · obtain ⟨b, off, la, lc, rfl, _, hb, t0, t1, t2, t3, t4, hlg, _⟩ := hT i hlt
      have hnl := (hR.train i hlt).nl
      have hin' : (i : Int) < (np : Int) := by omega
      have hi0 : (0 : Int) ≤ (i : Int) := by omega
      replace t0 := cellLater hB t0
      replace t1 := cellLater hB t1
      replace t2 := cellLater hB t2
      replace t3 := cellLater hB t3
      replace t4 := cellLater hB t4
      have hA := b1 wr (.cells #[.int .i64 (f i).frm, .int .i64 (f i).ready, .int .i64 (f i).due, .int .i64 (f i).weight, .slice la (f i).nl lc] 90)
      go_wp2
      refine nameW fun V hV => ?_
      rw [← hV] at hA
      clear hV t0 t1 t2 t3 t4
      replace hX := hX.later hA
      replace hB := Below.join hB (Nat.le_refl _) hA
      clear hA
      go_loopw [20] (fun kk wr2 => ∃ (k : Nat), k ≤ (f i).nl ∧ kk = .int .i64 k ∧ (∀ m, m < k → v i m = (0, 0, 0, 0)) ∧ LookBox w wr2 a len cap (some ⟨b, off, none⟩) np cap' c nc bT bS ∧ Below w.heap.size w wr2) (fun kk _ => (f i).nl - (intOf kk).toNat)
      case atStart => exact ⟨0, Nat.zero_le _, rfl, fun _ h => by omega, hX, hB⟩
      case round =>
        clear hX hB
        obtain ⟨k, hk, rfl, hall2, hX, hB⟩ := hrel
        by_cases hlt2 : k < (f i).nl
        · have hkn : (k : Int) < ((f i).nl : Int) := by omega
          have hl := hlook i k wr hlt hlt2 hB
          rcases hv i k hlt hlt2 with hz | hz
          · rw [hz] at hl
            dsimp only [clashV] at hl
            go_wp2_with (go_at_call 89; refine hl.mono ?_; rintro _ W4 ⟨rfl, hB4⟩)
            go_roundw
            case rel => exact ⟨k + 1, by omega, by go_num, fun m hm => (by by_cases e : m = k; (· subst e; exact hz); (· exact hall2 m (by omega))), (hX.later hB4).later (b1 _ _), Below.join (Below.join hB (Nat.le_refl _) hB4) (Nat.le_refl _) (b1 _ _)⟩
            case measure => simp [intOf]; omega
          · have hve := hE.symm.trans (firstC_some (nl := fun i => (f i).nl) hlt hlt2 hz hall2 hall)
            generalize v i k = vq at hl hz hve
            obtain ⟨v0, v1, v2, v3⟩ := vq
            dsimp only at hz
            have hz' : (v0 == 0) = false := by simpa using hz
            dsimp only [clashV] at hl
            go_wp2_with (go_at_call 89; refine hl.mono ?_; rintro _ W4 ⟨rfl, hB4⟩; replace hX := hX.later hB4; have r0 := hX.r0; have r1 := hX.r1; have r2 := hX.r2; have r3 := hX.r3; have z0 := hX.z0; have z1 := hX.z1; have z2 := hX.z2; have z3 := hX.z3; have lw : w.heap.size + 1 < W4.heap.size := ltCell r0)
            refine bodyPost_ret (v := .agg #[.int .i64 v0, .int .i64 v1, .int .i64 v2, .int .i64 v3]) (by simp [results, Tryz.results87, go_sem, r0, r1, r2, r3, lw, World.cell?_alloc_lt]) rfl ⟨by first | (rw [hve]; rfl) | (subst hve; rfl), ?_⟩
            exact (below_set4 (Below.join hB (Nat.le_refl _) hB4) (by omega) _ _ _ _).alloc (by simp; omega) _
        · have hke : Hid (k = (f i).nl) := (by omega : k = (f i).nl)
          have hkn : ((f i).nl : Int) ≤ (k : Int) := by omega
          clear hlt2 hk
          go_wp2
          go_roundw
          case rel => exact ⟨i + 1, by omega, by go_num, fun j hj => (by by_cases e : j = i; (· subst e; intro m hm; exact hall2 m (by rw [hke.out]; exact hm)); (· exact hall j (by omega))), hX, hB⟩
          case measure => simp [intOf]; omega
    · have hie : Hid (i = np) := (by omega : i = np)
      have hin' : (np : Int) ≤ (i : Int) := by omega
      have hve := hE.symm.trans (firstC_none (nl := fun i => (f i).nl) (fun j hj => hall j (by rw [hie.out]; exact hj)))
      have r0 := hX.r0
      have r1 := hX.r1
      have r2 := hX.r2
      have r3 := hX.r3
      have z0 := hX.z0
      have z1 := hX.z1
      have z2 := hX.z2
      have z3 := hX.z3
      clear hlt hi hall
      go_wp2
      refine bodyPost_ret (v := .agg #[.int .i64 0, .int .i64 0, .int .i64 0, .int .i64 0]) (by simp [results, Tryz.results87, go_sem, r0, r1, r2, r3]) rfl ⟨by first | (rw [hve]; rfl) | (subst hve; rfl), ?_⟩
      exact below_set4 hB (by omega) _ _ _ _

set_option maxRecDepth 20000 in
set_option maxHeartbeats 8000000 in
theorem firstFull_any (a : Option Addr) (len cap : Nat) (a' : Option Addr) (np cap' : Nat) (f : Nat → TrainD) (c : Option Addr) (nc bT bS : Nat) (v : Nat → Nat → Int × Int × Int × Int) (w : World)
    (hR : RightL len np f) (hT : IsTrains 0 w.heap.size w a' np f) (hv : ∀ i k, i < np → k < (f i).nl → v i k = (0, 0, 0, 0) ∨ (v i k).1 ≠ 0)
    (hlook : ∀ (i k : Nat) (W : World), i < np → k < (f i).nl → Below w.heap.size w W → Calls Tryz.prog 90 #[.agg #[.slice a' np cap', .slice c np nc, .slice a len cap, .map (some bT), .map (some bS)], .int .i64 i, .int .i64 k] W fun e W' => e = .returned (clashV (v i k)) ∧ Below W.heap.size W W') :
    Calls Tryz.prog 87 #[.agg #[.slice a' np cap', .slice c np nc, .slice a len cap, .map (some bT), .map (some bS)], .func (.func 90) #[.agg #[.slice a' np cap', .slice c np nc, .slice a len cap, .map (some bT), .map (some bS)]] #[]] w fun e w' => e = .returned (clashV (firstC np (fun i => (f i).nl) v)) ∧ Below w.heap.size w w' := by
  have hX := LookBox.new w a len cap a' np cap' c nc bT bS 136 86
  have hN := b2 w (.cells #[.slice a' np cap', .slice c np nc, .slice a len cap, .map (some bT), .map (some bS)] 136) (.cells #[.int .i64 0, .int .i64 0, .int .i64 0, .int .i64 0] 86)
  have htr := hR.tr
  obtain ⟨vv, hE⟩ : ∃ vv, firstC np (fun i => (f i).nl) v = vv := ⟨_, rfl⟩
  rw [hE]
  go_enter Tryz.func87, Tryz.ntmps87
  go_wp2
  refine nameW fun W0 hW => ?_
  rw [← hW] at hX hN
  clear hW
  go_loopw [12] (fun ii wr => ∃ (i : Nat), i ≤ np ∧ ii = .int .i64 i ∧ (∀ j, j < i → ∀ m, m < (f j).nl → v j m = (0, 0, 0, 0)) ∧ LookBox w wr a len cap a' np cap' c nc bT bS ∧ Below w.heap.size w wr) (fun ii _ => np - (intOf ii).toNat)
  case atStart => exact ⟨0, Nat.zero_le _, rfl, fun _ h => by omega, hX, hN⟩
  case round =>
    clear hX hN
    obtain ⟨i, hi, rfl, hall, hX, hB⟩ := hrel
    by_cases hlt : i < np
    · obtain ⟨b, off, la, lc, rfl, _, hb, t0, t1, t2, t3, t4, hlg, _⟩ := hT i hlt
      have hnl := (hR.train i hlt).nl
      have hin' : (i : Int) < (np : Int) := by omega
      have hi0 : (0 : Int) ≤ (i : Int) := by omega
      replace t0 := cellLater hB t0
      replace t1 := cellLater hB t1
      replace t2 := cellLater hB t2
      replace t3 := cellLater hB t3
      replace t4 := cellLater hB t4
      have hA := b1 wr (.cells #[.int .i64 (f i).frm, .int .i64 (f i).ready, .int .i64 (f i).due, .int .i64 (f i).weight, .slice la (f i).nl lc] 90)
      go_wp2
      refine nameW fun V hV => ?_
      rw [← hV] at hA
      clear hV t0 t1 t2 t3 t4
      replace hX := hX.later hA
      replace hB := Below.join hB (Nat.le_refl _) hA
      clear hA
      go_loopw [20] (fun kk wr2 => ∃ (k : Nat), k ≤ (f i).nl ∧ kk = .int .i64 k ∧ (∀ m, m < k → v i m = (0, 0, 0, 0)) ∧ LookBox w wr2 a len cap (some ⟨b, off, none⟩) np cap' c nc bT bS ∧ Below w.heap.size w wr2) (fun kk _ => (f i).nl - (intOf kk).toNat)
      case atStart => exact ⟨0, Nat.zero_le _, rfl, fun _ h => by omega, hX, hB⟩
      case round =>
        clear hX hB
        obtain ⟨k, hk, rfl, hall2, hX, hB⟩ := hrel
        by_cases hlt2 : k < (f i).nl
        · have hkn : (k : Int) < ((f i).nl : Int) := by omega
          have hl := hlook i k wr hlt hlt2 hB
          rcases hv i k hlt hlt2 with hz | hz
          · rw [hz] at hl
            dsimp only [clashV] at hl
            go_wp2_with (go_at_call 90; refine hl.mono ?_; rintro _ W4 ⟨rfl, hB4⟩)
            go_roundw
            case rel => exact ⟨k + 1, by omega, by go_num, fun m hm => (by by_cases e : m = k; (· subst e; exact hz); (· exact hall2 m (by omega))), (hX.later hB4).later (b1 _ _), Below.join (Below.join hB (Nat.le_refl _) hB4) (Nat.le_refl _) (b1 _ _)⟩
            case measure => simp [intOf]; omega
          · have hve := hE.symm.trans (firstC_some (nl := fun i => (f i).nl) hlt hlt2 hz hall2 hall)
            generalize v i k = vq at hl hz hve
            obtain ⟨v0, v1, v2, v3⟩ := vq
            dsimp only at hz
            have hz' : (v0 == 0) = false := by simpa using hz
            dsimp only [clashV] at hl
            go_wp2_with (go_at_call 90; refine hl.mono ?_; rintro _ W4 ⟨rfl, hB4⟩; replace hX := hX.later hB4; have r0 := hX.r0; have r1 := hX.r1; have r2 := hX.r2; have r3 := hX.r3; have z0 := hX.z0; have z1 := hX.z1; have z2 := hX.z2; have z3 := hX.z3; have lw : w.heap.size + 1 < W4.heap.size := ltCell r0)
            refine bodyPost_ret (v := .agg #[.int .i64 v0, .int .i64 v1, .int .i64 v2, .int .i64 v3]) (by simp [results, Tryz.results87, go_sem, r0, r1, r2, r3, lw, World.cell?_alloc_lt]) rfl ⟨by first | (rw [hve]; rfl) | (subst hve; rfl), ?_⟩
            exact (below_set4 (Below.join hB (Nat.le_refl _) hB4) (by omega) _ _ _ _).alloc (by simp; omega) _
        · have hke : Hid (k = (f i).nl) := (by omega : k = (f i).nl)
          have hkn : ((f i).nl : Int) ≤ (k : Int) := by omega
          clear hlt2 hk
          go_wp2
          go_roundw
          case rel => exact ⟨i + 1, by omega, by go_num, fun j hj => (by by_cases e : j = i; (· subst e; intro m hm; exact hall2 m (by rw [hke.out]; exact hm)); (· exact hall j (by omega))), hX, hB⟩
          case measure => simp [intOf]; omega
    · have hie : Hid (i = np) := (by omega : i = np)
      have hin' : (np : Int) ≤ (i : Int) := by omega
      have hve := hE.symm.trans (firstC_none (nl := fun i => (f i).nl) (fun j hj => hall j (by rw [hie.out]; exact hj)))
      have r0 := hX.r0
      have r1 := hX.r1
      have r2 := hX.r2
      have r3 := hX.r3
      have z0 := hX.z0
      have z1 := hX.z1
      have z2 := hX.z2
      have z3 := hX.z3
      clear hlt hi hall
      go_wp2
      refine bodyPost_ret (v := .agg #[.int .i64 0, .int .i64 0, .int .i64 0, .int .i64 0]) (by simp [results, Tryz.results87, go_sem, r0, r1, r2, r3]) rfl ⟨by first | (rw [hve]; rfl) | (subst hve; rfl), ?_⟩
      exact below_set4 hB (by omega) _ _ _ _
end Go.Proofs.YthnlkpifafklkaaGreatDoor
