/-
  The program's way through all legs: the first clash that a look finds.
  cmp.Or over three clashes: the first that is not the zero value.
  The program's Check: what it answers.
  The first clash by the program's way of looking is the first clash. The program's Check, at every argument.
  What lateness costs, by a plan: the walks.
  The program's Cost: what it answers.
-/
import Derived.Test.YtelickcfodcmaaaGreatDoorGG
import Derived.Test.YtelickcfodcmaaaGreatDoorLateQ
namespace Go.Proofs.YtelickcfodcmaaaGreatDoor
open Go.RowKit

def firstC (np : Nat) (nl : Nat → Nat) (v : Nat → Nat → Int × Int × Int × Int) : Int × Int × Int × Int :=
  match first2 np nl (fun i k => decide ((v i k).1 = 0)) with
  | some (i, k) => v i k
  | none => (0, 0, 0, 0)
theorem firstC_none {np : Nat} {nl : Nat → Nat} {v : Nat → Nat → Int × Int × Int × Int} (h : ∀ j, j < np → ∀ m, m < nl j → v j m = (0, 0, 0, 0)) : firstC np nl v = (0, 0, 0, 0) := by
  unfold firstC
  rw [first2_none (fun j hj m hm => by rw [h j hj m hm]; rfl)]
theorem firstC_some {np : Nat} {nl : Nat → Nat} {v : Nat → Nat → Int × Int × Int × Int} {i k : Nat} (hi : i < np) (hk : k < nl i) (hb : (v i k).1 ≠ 0) (hrow : ∀ m, m < k → v i m = (0, 0, 0, 0)) (h : ∀ j, j < i → ∀ m, m < nl j → v j m = (0, 0, 0, 0)) : firstC np nl v = v i k := by
  unfold firstC
  rw [first2_some (p := fun i k => decide ((v i k).1 = 0)) hi hk (decide_eq_false hb) (fun m hm => by rw [hrow m hm]; rfl) (fun j hj m hm => by rw [h j hj m hm]; rfl)]

set_option maxRecDepth 20000 in
set_option maxHeartbeats 8000000 in
theorem firstSoon_any (a : Option Addr) (len cap : Nat) (a' : Option Addr) (np cap' : Nat) (f : Nat → TrainD) (c : Option Addr) (nc bT bS : Nat) (v : Nat → Nat → Int × Int × Int × Int) (w : World)
    (hR : RightL len np f) (hT : IsTrains 0 w.heap.size w a' np f) (hv : ∀ i k, i < np → k < (f i).nl → v i k = (0, 0, 0, 0) ∨ (v i k).1 ≠ 0)
    (hlook : ∀ (i k : Nat) (W : World), i < np → k < (f i).nl → Below w.heap.size w W → Calls Tryz.prog 26 #[.agg #[.slice a' np cap', .slice c np nc, .slice a len cap, .map (some bT), .map (some bS)], .int .i64 i, .int .i64 k] W fun e W' => e = .returned (clashV (v i k)) ∧ Below W.heap.size W W') :
    Calls Tryz.prog 25 #[.agg #[.slice a' np cap', .slice c np nc, .slice a len cap, .map (some bT), .map (some bS)], .func (.func 26) #[.agg #[.slice a' np cap', .slice c np nc, .slice a len cap, .map (some bT), .map (some bS)]] #[]] w fun e w' => e = .returned (clashV (firstC np (fun i => (f i).nl) v)) ∧ Below w.heap.size w w' := by
  have hX := LookBox.new w a len cap a' np cap' c nc bT bS 62 33
  have hN := b2 w (.cells #[.slice a' np cap', .slice c np nc, .slice a len cap, .map (some bT), .map (some bS)] 62) (.cells #[.int .i64 0, .int .i64 0, .int .i64 0, .int .i64 0] 33)
  have htr := hR.tr
  obtain ⟨vv, hE⟩ : ∃ vv, firstC np (fun i => (f i).nl) v = vv := ⟨_, rfl⟩
  rw [hE]
  go_enter Tryz.func25, Tryz.ntmps25
  go_wp2
  refine nameW fun W0 hW => ?_
  rw [← hW] at hX hN
  clear hW
  go_loopw [12] (fun ii wr => ∃ (i : Nat), i ≤ np ∧ ii = .int .i64 i ∧ (∀ j, j < i → ∀ m, m < (f j).nl → v j m = (0, 0, 0, 0)) ∧ LookBox w wr a len cap a' np cap' c nc bT bS ∧ Below w.heap.size w wr) (fun ii _ => np - (intOf ii).toNat)
  case atStart => exact ⟨0, Nat.zero_le _, rfl, fun _ h => by omega, hX, hN⟩
  case round =>
    clear hX hN
    obtain ⟨i, hi, rfl, hall, hX, hB⟩ := hrel
    by_cases hlt : i < np
    · obtain ⟨b, off, la, lc, rfl, _, hb, t0, t1, t2, t3, t4, hlg, _⟩ := hT i hlt
      have hnl := (hR.train i hlt).nl
      have hin' : (i : Int) < (np : Int) := by omega
      have hi0 : (0 : Int) ≤ (i : Int) := by omega
      replace t0 := cellLater hB t0
      replace t1 := cellLater hB t1
      replace t2 := cellLater hB t2
      replace t3 := cellLater hB t3
      replace t4 := cellLater hB t4
      have hA := b1 wr (.cells #[.int .i64 (f i).frm, .int .i64 (f i).ready, .int .i64 (f i).due, .int .i64 (f i).weight, .slice la (f i).nl lc] 72)
      go_wp2
      refine nameW fun V hV => ?_
      rw [← hV] at hA
      clear hV t0 t1 t2 t3 t4
      replace hX := hX.later hA
      replace hB := Below.join hB (Nat.le_refl _) hA
      clear hA
      go_loopw [20] (fun kk wr2 => ∃ (k : Nat), k ≤ (f i).nl ∧ kk = .int .i64 k ∧ (∀ m, m < k → v i m = (0, 0, 0, 0)) ∧ LookBox w wr2 a len cap (some ⟨b, off, none⟩) np cap' c nc bT bS ∧ Below w.heap.size w wr2) (fun kk _ => (f i).nl - (intOf kk).toNat)
      case atStart => exact ⟨0, Nat.zero_le _, rfl, fun _ h => by omega, hX, hB⟩
      case round =>
        clear hX hB
        obtain ⟨k, hk, rfl, hall2, hX, hB⟩ := hrel
        by_cases hlt2 : k < (f i).nl
        · have hkn : (k : Int) < ((f i).nl : Int) := by omega
          have hl := hlook i k wr hlt hlt2 hB
          rcases hv i k hlt hlt2 with hz | hz
          · rw [hz] at hl
            dsimp only [clashV] at hl
            go_wp2_with (go_at_call 26; refine hl.mono ?_; rintro _ W4 ⟨rfl, hB4⟩)
            go_roundw
            case rel => exact ⟨k + 1, by omega, by go_num, fun m hm => (by by_cases e : m = k; (· subst e; exact hz); (· exact hall2 m (by omega))), (hX.later hB4).later (b1 _ _), Below.join (Below.join hB (Nat.le_refl _) hB4) (Nat.le_refl _) (b1 _ _)⟩
            case measure => simp [intOf]; omega
          · have hve := hE.symm.trans (firstC_some (nl := fun i => (f i).nl) hlt hlt2 hz hall2 hall)
            generalize v i k = vq at hl hz hve
            obtain ⟨v0, v1, v2, v3⟩ := vq
            dsimp only at hz
            have hz' : (v0 == 0) = false := by simpa using hz
            dsimp only [clashV] at hl
            go_wp2_with (go_at_call 26; refine hl.mono ?_; rintro _ W4 ⟨rfl, hB4⟩; replace hX := hX.later hB4; have r0 := hX.r0; have r1 := hX.r1; have r2 := hX.r2; have r3 := hX.r3; have z0 := hX.z0; have z1 := hX.z1; have z2 := hX.z2; have z3 := hX.z3; have lw : w.heap.size + 1 < W4.heap.size := ltCell r0)
            refine bodyPost_ret (v := .agg #[.int .i64 v0, .int .i64 v1, .int .i64 v2, .int .i64 v3]) (by simp [results, Tryz.results25, go_sem, r0, r1, r2, r3, lw, World.cell?_alloc_lt]) rfl ⟨by first | (rw [hve]; rfl) | (subst hve; rfl), ?_⟩
            exact (below_set4 (Below.join hB (Nat.le_refl _) hB4) (by omega) _ _ _ _).alloc (by simp; omega) _
        · have hke : Hid (k = (f i).nl) := (by omega : k = (f i).nl)
          have hkn : ((f i).nl : Int) ≤ (k : Int) := by omega
          clear hlt2 hk
          go_wp2
          go_roundw
          case rel => exact ⟨i + 1, by omega, by go_num, fun j hj => (by by_cases e : j = i; (· subst e; intro m hm; exact hall2 m (by rw [hke.out]; exact hm)); (· exact hall j (by omega))), hX, hB⟩
          case measure => simp [intOf]; omega
    · have hie : Hid (i = np) := (by omega : i = np)
      have hin' : (np : Int) ≤ (i : Int) := by omega
      have hve := hE.symm.trans (firstC_none (nl := fun i => (f i).nl) (fun j hj => hall j (by rw [hie.out]; exact hj)))
      have r0 := hX.r0
      have r1 := hX.r1
      have r2 := hX.r2
      have r3 := hX.r3
      have z0 := hX.z0
      have z1 := hX.z1
      have z2 := hX.z2
      have z3 := hX.z3
      clear hlt hi hall
      go_wp2
      refine bodyPost_ret (v := .agg #[.int .i64 0, .int .i64 0, .int .i64 0, .int .i64 0]) (by simp [results, Tryz.results25, go_sem, r0, r1, r2, r3]) rfl ⟨by first | (rw [hve]; rfl) | (subst hve; rfl), ?_⟩
      exact below_set4 hB (by omega) _ _ _ _

set_option maxRecDepth 20000 in
set_option maxHeartbeats 8000000 in
theorem firstTaken_any (a : Option Addr) (len cap : Nat) (a' : Option Addr) (np cap' : Nat) (f : Nat → TrainD) (c : Option Addr) (nc bT bS : Nat) (v : Nat → Nat → Int × Int × Int × Int) (w : World)
    (hR : RightL len np f) (hT : IsTrains 0 w.heap.size w a' np f) (hv : ∀ i k, i < np → k < (f i).nl → v i k = (0, 0, 0, 0) ∨ (v i k).1 ≠ 0)
    (hlook : ∀ (i k : Nat) (W : World), i < np → k < (f i).nl → Below w.heap.size w W → Calls Tryz.prog 27 #[.agg #[.slice a' np cap', .slice c np nc, .slice a len cap, .map (some bT), .map (some bS)], .int .i64 i, .int .i64 k] W fun e W' => e = .returned (clashV (v i k)) ∧ Below W.heap.size W W') :
    Calls Tryz.prog 25 #[.agg #[.slice a' np cap', .slice c np nc, .slice a len cap, .map (some bT), .map (some bS)], .func (.func 27) #[.agg #[.slice a' np cap', .slice c np nc, .slice a len cap, .map (some bT), .map (some bS)]] #[]] w fun e w' => e = .returned (clashV (firstC np (fun i => (f i).nl) v)) ∧ Below w.heap.size w w' := by
  have hX := LookBox.new w a len cap a' np cap' c nc bT bS 62 33
  have hN := b2 w (.cells #[.slice a' np cap', .slice c np nc, .slice a len cap, .map (some bT), .map (some bS)] 62) (.cells #[.int .i64 0, .int .i64 0, .int .i64 0, .int .i64 0] 33)
  have htr := hR.tr
  obtain ⟨vv, hE⟩ : ∃ vv, firstC np (fun i => (f i).nl) v = vv := ⟨_, rfl⟩
  rw [hE]
  go_enter Tryz.func25, Tryz.ntmps25
  go_wp2
  refine nameW fun W0 hW => ?_
  rw [← hW] at hX hN
  clear hW
  go_loopw [12] (fun ii wr => ∃ (i : Nat), i ≤ np ∧ ii = .int .i64 i ∧ (∀ j, j < i → ∀ m, m < (f j).nl → v j m = (0, 0, 0, 0)) ∧ LookBox w wr a len cap a' np cap' c nc bT bS ∧ Below w.heap.size w wr) (fun ii _ => np - (intOf ii).toNat)
  case atStart => exact ⟨0, Nat.zero_le _, rfl, fun _ h => by omega, hX, hN⟩
  case round =>
    clear hX hN
    obtain ⟨i, hi, rfl, hall, hX, hB⟩ := hrel
    by_cases hlt : i < np
    · obtain ⟨b, off, la, lc, rfl, _, hb, t0, t1, t2, t3, t4, hlg, _⟩ := hT i hlt
      have hnl := (hR.train i hlt).nl
      have hin' : (i : Int) < (np : Int) := by omega
      have hi0 : (0 : Int) ≤ (i : Int) := by omega
      replace t0 := cellLater hB t0
      replace t1 := cellLater hB t1
      replace t2 := cellLater hB t2
      replace t3 := cellLater hB t3
      replace t4 := cellLater hB t4
      have hA := b1 wr (.cells #[.int .i64 (f i).frm, .int .i64 (f i).ready, .int .i64 (f i).due, .int .i64 (f i).weight, .slice la (f i).nl lc] 72)
      go_wp2
      refine nameW fun V hV => ?_
      rw [← hV] at hA
      clear hV t0 t1 t2 t3 t4
      replace hX := hX.later hA
      replace hB := Below.join hB (Nat.le_refl _) hA
      clear hA
      go_loopw [20] (fun kk wr2 => ∃ (k : Nat), k ≤ (f i).nl ∧ kk = .int .i64 k ∧ (∀ m, m < k → v i m = (0, 0, 0, 0)) ∧ LookBox w wr2 a len cap (some ⟨b, off, none⟩) np cap' c nc bT bS ∧ Below w.heap.size w wr2) (fun kk _ => (f i).nl - (intOf kk).toNat)
      case atStart => exact ⟨0, Nat.zero_le _, rfl, fun _ h => by omega, hX, hB⟩
      case round =>
        clear hX hB
        obtain ⟨k, hk, rfl, hall2, hX, hB⟩ := hrel
        by_cases hlt2 : k < (f i).nl
        · have hkn : (k : Int) < ((f i).nl : Int) := by omega
          have hl := hlook i k wr hlt hlt2 hB
          rcases hv i k hlt hlt2 with hz | hz
          · rw [hz] at hl
            dsimp only [clashV] at hl
            go_wp2_with (go_at_call 27; refine hl.mono ?_; rintro _ W4 ⟨rfl, hB4⟩)
            go_roundw
            case rel => exact ⟨k + 1, by omega, by go_num, fun m hm => (by by_cases e : m = k; (· subst e; exact hz); (· exact hall2 m (by omega))), (hX.later hB4).later (b1 _ _), Below.join (Below.join hB (Nat.le_refl _) hB4) (Nat.le_refl _) (b1 _ _)⟩
            case measure => simp [intOf]; omega
          · have hve := hE.symm.trans (firstC_some (nl := fun i => (f i).nl) hlt hlt2 hz hall2 hall)
            generalize v i k = vq at hl hz hve
            obtain ⟨v0, v1, v2, v3⟩ := vq
            dsimp only at hz
            have hz' : (v0 == 0) = false := by simpa using hz
            dsimp only [clashV] at hl
            go_wp2_with (go_at_call 27; refine hl.mono ?_; rintro _ W4 ⟨rfl, hB4⟩; replace hX := hX.later hB4; have r0 := hX.r0; have r1 := hX.r1; have r2 := hX.r2; have r3 := hX.r3; have z0 := hX.z0; have z1 := hX.z1; have z2 := hX.z2; have z3 := hX.z3; have lw : w.heap.size + 1 < W4.heap.size := ltCell r0)
            refine bodyPost_ret (v := .agg #[.int .i64 v0, .int .i64 v1, .int .i64 v2, .int .i64 v3]) (by simp [results, Tryz.results25, go_sem, r0, r1, r2, r3, lw, World.cell?_alloc_lt]) rfl ⟨by first | (rw [hve]; rfl) | (subst hve; rfl), ?_⟩
            exact (below_set4 (Below.join hB (Nat.le_refl _) hB4) (by omega) _ _ _ _).alloc (by simp; omega) _
        · have hke : Hid (k = (f i).nl) := (by omega : k = (f i).nl)
          have hkn : ((f i).nl : Int) ≤ (k : Int) := by omega
          clear hlt2 hk
          go_wp2
          go_roundw
          case rel => exact ⟨i + 1, by omega, by go_num, fun j hj => (by by_cases e : j = i; (· subst e; intro m hm; exact hall2 m (by rw [hke.out]; exact hm)); (· exact hall j (by omega))), hX, hB⟩
          case measure => simp [intOf]; omega
    · have hie : Hid (i = np) := (by omega : i = np)
      have hin' : (np : Int) ≤ (i : Int) := by omega
      have hve := hE.symm.trans (firstC_none (nl := fun i => (f i).nl) (fun j hj => hall j (by rw [hie.out]; exact hj)))
      have r0 := hX.r0
      have r1 := hX.r1
      have r2 := hX.r2
      have r3 := hX.r3
      have z0 := hX.z0
      have z1 := hX.z1
      have z2 := hX.z2
      have z3 := hX.z3
      clear hlt hi hall
      go_wp2
      refine bodyPost_ret (v := .agg #[.int .i64 0, .int .i64 0, .int .i64 0, .int .i64 0]) (by simp [results, Tryz.results25, go_sem, r0, r1, r2, r3]) rfl ⟨by first | (rw [hve]; rfl) | (subst hve; rfl), ?_⟩
      exact below_set4 hB (by omega) _ _ _ _

set_option maxRecDepth 20000 in
set_option maxHeartbeats 8000000 in
theorem firstFull_any (a : Option Addr) (len cap : Nat) (a' : Option Addr) (np cap' : Nat) (f : Nat → TrainD) (c : Option Addr) (nc bT bS : Nat) (v : Nat → Nat → Int × Int × Int × Int) (w : World)
    (hR : RightL len np f) (hT : IsTrains 0 w.heap.size w a' np f) (hv : ∀ i k, i < np → k < (f i).nl → v i k = (0, 0, 0, 0) ∨ (v i k).1 ≠ 0)
    (hlook : ∀ (i k : Nat) (W : World), i < np → k < (f i).nl → Below w.heap.size w W → Calls Tryz.prog 28 #[.agg #[.slice a' np cap', .slice c np nc, .slice a len cap, .map (some bT), .map (some bS)], .int .i64 i, .int .i64 k] W fun e W' => e = .returned (clashV (v i k)) ∧ Below W.heap.size W W') :
    Calls Tryz.prog 25 #[.agg #[.slice a' np cap', .slice c np nc, .slice a len cap, .map (some bT), .map (some bS)], .func (.func 28) #[.agg #[.slice a' np cap', .slice c np nc, .slice a len cap, .map (some bT), .map (some bS)]] #[]] w fun e w' => e = .returned (clashV (firstC np (fun i => (f i).nl) v)) ∧ Below w.heap.size w w' := by
  have hX := LookBox.new w a len cap a' np cap' c nc bT bS 62 33
  have hN := b2 w (.cells #[.slice a' np cap', .slice c np nc, .slice a len cap, .map (some bT), .map (some bS)] 62) (.cells #[.int .i64 0, .int .i64 0, .int .i64 0, .int .i64 0] 33)
  have htr := hR.tr
  obtain ⟨vv, hE⟩ : ∃ vv, firstC np (fun i => (f i).nl) v = vv := ⟨_, rfl⟩
  rw [hE]
  go_enter Tryz.func25, Tryz.ntmps25
  go_wp2
  refine nameW fun W0 hW => ?_
  rw [← hW] at hX hN
  clear hW
  go_loopw [12] (fun ii wr => ∃ (i : Nat), i ≤ np ∧ ii = .int .i64 i ∧ (∀ j, j < i → ∀ m, m < (f j).nl → v j m = (0, 0, 0, 0)) ∧ LookBox w wr a len cap a' np cap' c nc bT bS ∧ Below w.heap.size w wr) (fun ii _ => np - (intOf ii).toNat)
  case atStart => exact ⟨0, Nat.zero_le _, rfl, fun _ h => by omega, hX, hN⟩
  case round =>
    clear hX hN
    obtain ⟨i, hi, rfl, hall, hX, hB⟩ := hrel
    by_cases hlt : i < np
    · obtain ⟨b, off, la, lc, rfl, _, hb, t0, t1, t2, t3, t4, hlg, _⟩ := hT i hlt
      have hnl := (hR.train i hlt).nl
      have hin' : (i : Int) < (np : Int) := by omega
      have hi0 : (0 : Int) ≤ (i : Int) := by omega
      replace t0 := cellLater hB t0
      replace t1 := cellLater hB t1
      replace t2 := cellLater hB t2
      replace t3 := cellLater hB t3
      replace t4 := cellLater hB t4
      have hA := b1 wr (.cells #[.int .i64 (f i).frm, .int .i64 (f i).ready, .int .i64 (f i).due, .int .i64 (f i).weight, .slice la (f i).nl lc] 72)
      go_wp2
      refine nameW fun V hV => ?_
      rw [← hV] at hA
      clear hV t0 t1 t2 t3 t4
      replace hX := hX.later hA
      replace hB := Below.join hB (Nat.le_refl _) hA
      clear hA
      go_loopw [20] (fun kk wr2 => ∃ (k : Nat), k ≤ (f i).nl ∧ kk = .int .i64 k ∧ (∀ m, m < k → v i m = (0, 0, 0, 0)) ∧ LookBox w wr2 a len cap (some ⟨b, off, none⟩) np cap' c nc bT bS ∧ Below w.heap.size w wr2) (fun kk _ => (f i).nl - (intOf kk).toNat)
      case atStart => exact ⟨0, Nat.zero_le _, rfl, fun _ h => by omega, hX, hB⟩
      case round =>
        clear hX hB
        obtain ⟨k, hk, rfl, hall2, hX, hB⟩ := hrel
        by_cases hlt2 : k < (f i).nl
        · have hkn : (k : Int) < ((f i).nl : Int) := by omega
          have hl := hlook i k wr hlt hlt2 hB
          rcases hv i k hlt hlt2 with hz | hz
          · rw [hz] at hl
            dsimp only [clashV] at hl
            go_wp2_with (go_at_call 28; refine hl.mono ?_; rintro _ W4 ⟨rfl, hB4⟩)
            go_roundw
            case rel => exact ⟨k + 1, by omega, by go_num, fun m hm => (by by_cases e : m = k; (· subst e; exact hz); (· exact hall2 m (by omega))), (hX.later hB4).later (b1 _ _), Below.join (Below.join hB (Nat.le_refl _) hB4) (Nat.le_refl _) (b1 _ _)⟩
            case measure => simp [intOf]; omega
          · have hve := hE.symm.trans (firstC_some (nl := fun i => (f i).nl) hlt hlt2 hz hall2 hall)
            generalize v i k = vq at hl hz hve
            obtain ⟨v0, v1, v2, v3⟩ := vq
            dsimp only at hz
            have hz' : (v0 == 0) = false := by simpa using hz
            dsimp only [clashV] at hl
            go_wp2_with (go_at_call 28; refine hl.mono ?_; rintro _ W4 ⟨rfl, hB4⟩; replace hX := hX.later hB4; have r0 := hX.r0; have r1 := hX.r1; have r2 := hX.r2; have r3 := hX.r3; have z0 := hX.z0; have z1 := hX.z1; have z2 := hX.z2; have z3 := hX.z3; have lw : w.heap.size + 1 < W4.heap.size := ltCell r0)
            refine bodyPost_ret (v := .agg #[.int .i64 v0, .int .i64 v1, .int .i64 v2, .int .i64 v3]) (by simp [results, Tryz.results25, go_sem, r0, r1, r2, r3, lw, World.cell?_alloc_lt]) rfl ⟨by first | (rw [hve]; rfl) | (subst hve; rfl), ?_⟩
            exact (below_set4 (Below.join hB (Nat.le_refl _) hB4) (by omega) _ _ _ _).alloc (by simp; omega) _
        · have hke : Hid (k = (f i).nl) := (by omega : k = (f i).nl)
          have hkn : ((f i).nl : Int) ≤ (k : Int) := by omega
          clear hlt2 hk
          go_wp2
          go_roundw
          case rel => exact ⟨i + 1, by omega, by go_num, fun j hj => (by by_cases e : j = i; (· subst e; intro m hm; exact hall2 m (by rw [hke.out]; exact hm)); (· exact hall j (by omega))), hX, hB⟩
          case measure => simp [intOf]; omega
    · have hie : Hid (i = np) := (by omega : i = np)
      have hin' : (np : Int) ≤ (i : Int) := by omega
      have hve := hE.symm.trans (firstC_none (nl := fun i => (f i).nl) (fun j hj => hall j (by rw [hie.out]; exact hj)))
      have r0 := hX.r0
      have r1 := hX.r1
      have r2 := hX.r2
      have r3 := hX.r3
      have z0 := hX.z0
      have z1 := hX.z1
      have z2 := hX.z2
      have z3 := hX.z3
      clear hlt hi hall
      go_wp2
      refine bodyPost_ret (v := .agg #[.int .i64 0, .int .i64 0, .int .i64 0, .int .i64 0]) (by simp [results, Tryz.results25, go_sem, r0, r1, r2, r3]) rfl ⟨by first | (rw [hve]; rfl) | (subst hve; rfl), ?_⟩
      exact below_set4 hB (by omega) _ _ _ _
end Go.Proofs.YtelickcfodcmaaaGreatDoor

namespace Go.Proofs.YtelickcfodcmaaaGreatDoor
open Go.RowKit

def orC (v : Nat → Int × Int × Int × Int) : Int × Int × Int × Int :=
  if (v 0).1 ≠ 0 then v 0 else if (v 1).1 ≠ 0 then v 1 else if (v 2).1 ≠ 0 then v 2 else (0, 0, 0, 0)
theorem orC_at {v : Nat → Int × Int × Int × Int} {k : Nat} (hk : k < 3) (hz : (v k).1 ≠ 0) (h : ∀ j, j < k → v j = (0, 0, 0, 0)) : orC v = v k := by
  unfold orC
  match k, hk with
  | 0, _ => rw [if_pos hz]
  | 1, _ => rw [if_neg (by rw [h 0 (by omega)]; simp), if_pos hz]
  | 2, _ => rw [if_neg (by rw [h 0 (by omega)]; simp), if_neg (by rw [h 1 (by omega)]; simp), if_pos hz]
theorem orC_none {v : Nat → Int × Int × Int × Int} (h : ∀ j, j < 3 → v j = (0, 0, 0, 0)) : orC v = (0, 0, 0, 0) := by
  unfold orC
  rw [if_neg (by rw [h 0 (by omega)]; simp), if_neg (by rw [h 1 (by omega)]; simp), if_neg (by rw [h 2 (by omega)]; simp)]

/-- the answer's box and the zero value's -/
structure OrBox (w W : World) : Prop where
  r0 : W.cell? ⟨w.heap.size, 0, none⟩ = some (.int .i64 0)
  r1 : W.cell? ⟨w.heap.size, 1, none⟩ = some (.int .i64 0)
  r2 : W.cell? ⟨w.heap.size, 2, none⟩ = some (.int .i64 0)
  r3 : W.cell? ⟨w.heap.size, 3, none⟩ = some (.int .i64 0)
  z0 : W.frozen? ⟨w.heap.size, 0, none⟩ = false
  z1 : W.frozen? ⟨w.heap.size, 1, none⟩ = false
  z2 : W.frozen? ⟨w.heap.size, 2, none⟩ = false
  z3 : W.frozen? ⟨w.heap.size, 3, none⟩ = false
  n0 : W.cell? ⟨w.heap.size + 1, 0, none⟩ = some (.int .i64 0)
  n1 : W.cell? ⟨w.heap.size + 1, 1, none⟩ = some (.int .i64 0)
  n2 : W.cell? ⟨w.heap.size + 1, 2, none⟩ = some (.int .i64 0)
  n3 : W.cell? ⟨w.heap.size + 1, 3, none⟩ = some (.int .i64 0)
theorem OrBox.later {w W W' : World} (h : OrBox w W) (hb : Below W.heap.size W W') : OrBox w W' :=
  ⟨cellLater hb h.r0, cellLater hb h.r1, cellLater hb h.r2, cellLater hb h.r3, frozenLater hb h.r0 h.z0, frozenLater hb h.r1 h.z1, frozenLater hb h.r2 h.z2, frozenLater hb h.r3 h.z3, cellLater hb h.n0, cellLater hb h.n1, cellLater hb h.n2, cellLater hb h.n3⟩
theorem box4 (w : World) (x0 x1 x2 x3 : Value) (t : TypeId) : ((w.alloc (.cells #[x0, x1, x2, x3] t)).cell? ⟨w.heap.size, 0, none⟩ = some x0 ∧ (w.alloc (.cells #[x0, x1, x2, x3] t)).cell? ⟨w.heap.size, 1, none⟩ = some x1 ∧ (w.alloc (.cells #[x0, x1, x2, x3] t)).cell? ⟨w.heap.size, 2, none⟩ = some x2 ∧ (w.alloc (.cells #[x0, x1, x2, x3] t)).cell? ⟨w.heap.size, 3, none⟩ = some x3) ∧
    ((w.alloc (.cells #[x0, x1, x2, x3] t)).frozen? ⟨w.heap.size, 0, none⟩ = false ∧ (w.alloc (.cells #[x0, x1, x2, x3] t)).frozen? ⟨w.heap.size, 1, none⟩ = false ∧ (w.alloc (.cells #[x0, x1, x2, x3] t)).frozen? ⟨w.heap.size, 2, none⟩ = false ∧ (w.alloc (.cells #[x0, x1, x2, x3] t)).frozen? ⟨w.heap.size, 3, none⟩ = false) := by
  refine ⟨by simp, ?_, ?_, ?_, ?_⟩ <;> rw [World.frozen?_alloc_at _ _ _ _ rfl]
theorem OrBox.new (w : World) (t t' : TypeId) : OrBox w ((w.alloc (.cells #[.int .i64 0, .int .i64 0, .int .i64 0, .int .i64 0] t)).alloc (.cells #[.int .i64 0, .int .i64 0, .int .i64 0, .int .i64 0] t')) := by
  obtain ⟨⟨r0, r1, r2, r3⟩, z0, z1, z2, z3⟩ := box4 w (.int .i64 0) (.int .i64 0) (.int .i64 0) (.int .i64 0) t
  obtain ⟨⟨n0, n1, n2, n3⟩, _⟩ := box4 (w.alloc (.cells #[.int .i64 0, .int .i64 0, .int .i64 0, .int .i64 0] t)) (.int .i64 0) (.int .i64 0) (.int .i64 0) (.int .i64 0) t'
  have hb := b1 (w.alloc (.cells #[.int .i64 0, .int .i64 0, .int .i64 0, .int .i64 0] t)) (.cells #[.int .i64 0, .int .i64 0, .int .i64 0, .int .i64 0] t')
  have es : (w.alloc (.cells #[.int .i64 0, .int .i64 0, .int .i64 0, .int .i64 0] t)).heap.size = w.heap.size + 1 := by simp
  rw [es] at n0 n1 n2 n3
  exact ⟨cellLater hb r0, cellLater hb r1, cellLater hb r2, cellLater hb r3, frozenLater hb r0 z0, frozenLater hb r1 z1, frozenLater hb r2 z2, frozenLater hb r3 z3, n0, n1, n2, n3⟩

set_option maxRecDepth 20000 in
set_option maxHeartbeats 8000000 in
theorem or_any (b off cap : Nat) (v : Nat → Int × Int × Int × Int) (w : World) (hv : ∀ k, k < 3 → v k = (0, 0, 0, 0) ∨ (v k).1 ≠ 0)
    (hc : ∀ k, k < 3 → w.cell? ⟨b, off + k * 4, none⟩ = some (.int .i64 (v k).1) ∧ w.cell? ⟨b, off + k * 4 + 1, none⟩ = some (.int .i64 (v k).2.1) ∧ w.cell? ⟨b, off + k * 4 + 2, none⟩ = some (.int .i64 (v k).2.2.1) ∧ w.cell? ⟨b, off + k * 4 + 3, none⟩ = some (.int .i64 (v k).2.2.2)) :
    Calls Tryz.prog 24 #[.slice (some ⟨b, off, none⟩) 3 cap] w fun e w' => e = .returned (clashV (orC v)) ∧ Below w.heap.size w w' := by
  have hX := OrBox.new w 33 33
  have hN := b2 w (.cells #[.int .i64 0, .int .i64 0, .int .i64 0, .int .i64 0] 33) (.cells #[.int .i64 0, .int .i64 0, .int .i64 0, .int .i64 0] 33)
  obtain ⟨vv, hE⟩ : ∃ vv, orC v = vv := ⟨_, rfl⟩
  rw [hE]
  go_enter Tryz.func24, Tryz.ntmps24
  go_wp2
  refine nameW fun W0 hW => ?_
  rw [← hW] at hX hN
  clear hW
  go_loopw [8] (fun kk wr => ∃ (k : Nat), k ≤ 3 ∧ kk = .int .i64 k ∧ (∀ j, j < k → v j = (0, 0, 0, 0)) ∧ OrBox w wr ∧ Below w.heap.size w wr) (fun kk _ => 3 - (intOf kk).toNat)
  case atStart => exact ⟨0, Nat.zero_le _, rfl, fun _ h => by omega, hX, hN⟩
  case round =>
    clear hX hN
    obtain ⟨k, hk, rfl, hall, hX, hB⟩ := hrel
    have n0 := hX.n0
    have n1 := hX.n1
    have n2 := hX.n2
    have n3 := hX.n3
    have ln : w.heap.size + 1 < wr.heap.size := ltCell n0
    by_cases hlt : k < 3
    · have hlt' : (k : Int) < 3 := by omega
      have hk0 : (0 : Int) ≤ (k : Int) := by omega
      obtain ⟨c0, c1, c2, c3⟩ := hc k hlt
      replace c0 := cellLater hB c0
      replace c1 := cellLater hB c1
      replace c2 := cellLater hB c2
      replace c3 := cellLater hB c3
      rcases hv k hlt with hz | hz
      · rw [hz] at c0 c1 c2 c3
        dsimp only at c0 c1 c2 c3
        go_wp2
        go_roundw
        case rel => exact ⟨k + 1, by omega, by go_num, fun j hj => (by by_cases e : j = k; (· subst e; exact hz); (· exact hall j (by omega))), hX.later (b1 _ _), Below.join hB (Nat.le_refl _) (b1 _ _)⟩
        case measure => simp [intOf]; omega
      · have hve := hE.symm.trans (orC_at hlt hz hall)
        generalize v k = vq at c0 c1 c2 c3 hz hve
        obtain ⟨v0, v1, v2, v3⟩ := vq
        dsimp only at c0 c1 c2 c3 hz
        have hz' : (v0 == 0) = false := by simpa using hz
        have r0 := hX.r0
        have r1 := hX.r1
        have r2 := hX.r2
        have r3 := hX.r3
        have z0 := hX.z0
        have z1 := hX.z1
        have z2 := hX.z2
        have z3 := hX.z3
        have lw : w.heap.size < wr.heap.size := ltCell r0
        go_wp2
        refine bodyPost_ret (v := .agg #[.int .i64 v0, .int .i64 v1, .int .i64 v2, .int .i64 v3]) (by simp [results, Tryz.results24, go_sem, r0, r1, r2, r3, lw, World.cell?_alloc_lt]) rfl ⟨by first | (rw [hve]; rfl) | (subst hve; rfl), ?_⟩
        exact (below_set4 hB (by omega) _ _ _ _).alloc (by simp; omega) _
    · have hlt' : (3 : Int) ≤ (k : Int) := by omega
      have hve := hE.symm.trans (orC_none (fun j hj => hall j (by omega)))
      have r0 := hX.r0
      have r1 := hX.r1
      have r2 := hX.r2
      have r3 := hX.r3
      have z0 := hX.z0
      have z1 := hX.z1
      have z2 := hX.z2
      have z3 := hX.z3
      clear hlt hk
      go_wp2
      refine bodyPost_ret (v := .agg #[.int .i64 0, .int .i64 0, .int .i64 0, .int .i64 0]) (by simp [results, Tryz.results24, go_sem, r0, r1, r2, r3]) rfl ⟨by first | (rw [hve]; rfl) | (subst hve; rfl), ?_⟩
      exact below_set4 hB (by omega) _ _ _ _
end Go.Proofs.YtelickcfodcmaaaGreatDoor

namespace Go.Proofs.YtelickcfodcmaaaGreatDoor
open Go.RowKit

theorem soonC_or (f : Nat → TrainD) (P : Nat → RowD) (i k : Nat) : soonC f P i k = (0, 0, 0, 0) ∨ (soonC f P i k).1 ≠ 0 := by unfold soonC; split <;> simp
theorem takenC_or (gap : Int) (np : Nat) (f : Nat → TrainD) (P : Nat → RowD) (i k : Nat) : takenC gap np f P i k = (0, 0, 0, 0) ∨ (takenC gap np f P i k).1 ≠ 0 := by unfold takenC; split <;> simp
theorem fullC_or (g : Nat → Int) (np : Nat) (f : Nat → TrainD) (P : Nat → RowD) (i k : Nat) : fullC g np f P i k = (0, 0, 0, 0) ∨ (fullC g np f P i k).1 ≠ 0 := by unfold fullC; split <;> simp
theorem firstC_or {np : Nat} {nl : Nat → Nat} {v : Nat → Nat → Int × Int × Int × Int} (hv : ∀ i k, v i k = (0, 0, 0, 0) ∨ (v i k).1 ≠ 0) : firstC np nl v = (0, 0, 0, 0) ∨ (firstC np nl v).1 ≠ 0 := by
  unfold firstC
  split
  · exact hv _ _
  · exact Or.inl rfl

/-- the three first clashes, one behind the other -/
def tri (p q r : Int × Int × Int × Int) : Nat → Int × Int × Int × Int
  | 0 => p
  | 1 => q
  | _ => r
def three (g : Nat → Int) (gap : Int) (np : Nat) (f : Nat → TrainD) (P : Nat → RowD) : Nat → Int × Int × Int × Int :=
  tri (firstC np (fun i => (f i).nl) (soonC f P)) (firstC np (fun i => (f i).nl) (takenC gap np f P)) (firstC np (fun i => (f i).nl) (fullC g np f P))
theorem three_or (g : Nat → Int) (gap : Int) (np : Nat) (f : Nat → TrainD) (P : Nat → RowD) : ∀ k, three g gap np f P k = (0, 0, 0, 0) ∨ (three g gap np f P k).1 ≠ 0
  | 0 => firstC_or (soonC_or f P)
  | 1 => firstC_or (takenC_or gap np f P)
  | _ + 2 => firstC_or (fullC_or g np f P)

theorem cells12 (V : World) (p0 p1 p2 p3 q0 q1 q2 q3 r0 r1 r2 r3 : Int) (t : TypeId) : ∀ k, k < 3 →
    (V.alloc (.cells #[.int .i64 p0, .int .i64 p1, .int .i64 p2, .int .i64 p3, .int .i64 q0, .int .i64 q1, .int .i64 q2, .int .i64 q3, .int .i64 r0, .int .i64 r1, .int .i64 r2, .int .i64 r3] t)).cell? ⟨V.heap.size, 0 + k * 4, none⟩ = some (.int .i64 (tri (p0, p1, p2, p3) (q0, q1, q2, q3) (r0, r1, r2, r3) k).1) ∧
    (V.alloc (.cells #[.int .i64 p0, .int .i64 p1, .int .i64 p2, .int .i64 p3, .int .i64 q0, .int .i64 q1, .int .i64 q2, .int .i64 q3, .int .i64 r0, .int .i64 r1, .int .i64 r2, .int .i64 r3] t)).cell? ⟨V.heap.size, 0 + k * 4 + 1, none⟩ = some (.int .i64 (tri (p0, p1, p2, p3) (q0, q1, q2, q3) (r0, r1, r2, r3) k).2.1) ∧
    (V.alloc (.cells #[.int .i64 p0, .int .i64 p1, .int .i64 p2, .int .i64 p3, .int .i64 q0, .int .i64 q1, .int .i64 q2, .int .i64 q3, .int .i64 r0, .int .i64 r1, .int .i64 r2, .int .i64 r3] t)).cell? ⟨V.heap.size, 0 + k * 4 + 2, none⟩ = some (.int .i64 (tri (p0, p1, p2, p3) (q0, q1, q2, q3) (r0, r1, r2, r3) k).2.2.1) ∧
    (V.alloc (.cells #[.int .i64 p0, .int .i64 p1, .int .i64 p2, .int .i64 p3, .int .i64 q0, .int .i64 q1, .int .i64 q2, .int .i64 q3, .int .i64 r0, .int .i64 r1, .int .i64 r2, .int .i64 r3] t)).cell? ⟨V.heap.size, 0 + k * 4 + 3, none⟩ = some (.int .i64 (tri (p0, p1, p2, p3) (q0, q1, q2, q3) (r0, r1, r2, r3) k).2.2.2)
  | 0, _ => ⟨by rw [World.cell?_alloc_at _ _ _ _ rfl]; rfl, by rw [World.cell?_alloc_at _ _ _ _ rfl]; rfl, by rw [World.cell?_alloc_at _ _ _ _ rfl]; rfl, by rw [World.cell?_alloc_at _ _ _ _ rfl]; rfl⟩
  | 1, _ => ⟨by rw [World.cell?_alloc_at _ _ _ _ rfl]; rfl, by rw [World.cell?_alloc_at _ _ _ _ rfl]; rfl, by rw [World.cell?_alloc_at _ _ _ _ rfl]; rfl, by rw [World.cell?_alloc_at _ _ _ _ rfl]; rfl⟩
  | 2, _ => ⟨by rw [World.cell?_alloc_at _ _ _ _ rfl]; rfl, by rw [World.cell?_alloc_at _ _ _ _ rfl]; rfl, by rw [World.cell?_alloc_at _ _ _ _ rfl]; rfl, by rw [World.cell?_alloc_at _ _ _ _ rfl]; rfl⟩
theorem set4_cell {W : World} {b k o : Nat} {v : Value} (h : W.cell? ⟨k, o, none⟩ = some v) (hne : k ≠ b) (x0 x1 x2 x3 : Value) : ((((W.setCell ⟨b, 0, none⟩ x0).setCell ⟨b, 1, none⟩ x1).setCell ⟨b, 2, none⟩ x2).setCell ⟨b, 3, none⟩ x3).cell? ⟨k, o, none⟩ = some v :=
  (World.cell?_of_block (a := ⟨k, o, none⟩) (by rw [Below.heap_setCell _ _ _ _ hne, Below.heap_setCell _ _ _ _ hne, Below.heap_setCell _ _ _ _ hne, Below.heap_setCell _ _ _ _ hne])).trans h

set_option maxRecDepth 20000 in
set_option maxHeartbeats 16000000 in
theorem implCheck_main (a : Option Addr) (len cap : Nat) (g : Nat → Int) (gap : Int) (a' : Option Addr) (np cap' : Nat) (f : Nat → TrainD) (c : Option Addr) (nc : Nat) (P : Nat → RowD) (w : World)
    (hl : len ≤ 1048576) (hp : np ≤ 1048576) (hml : ∀ j, j < np → (f j).nl ≤ 1048576) (hmp : ∀ j, j < np → (P j).n ≤ 1048576) (hI : IsInts 0 w.heap.size w a len g) (hT : IsTrains 0 w.heap.size w a' np f) (hP : IsRows 0 w.heap.size w c np P) (hC : Caps w c np)
    (hg : w.cell? ⟨0, 0, none⟩ = some (.iface 234 (.agg #[.pointer (some ⟨1, 165, none⟩)]))) (hF : Hid (faultOf len g gap np f = (0, 0))) (hS : shapeB np f np P = true) :
    Calls Tryz.prog 7 #[.agg #[.slice a len cap, .int .i64 gap, .slice a' np cap'], .agg #[.slice c np nc]] w fun e w' => e = .returned (clashV (orC (three g gap np f P))) ∧ Below w.heap.size w w' := by
  have hX := Boxes.new w a len cap gap a' np cap' c np nc 26 30 33
  have hR := rightL_of hF.out
  have hG := rightG_of hF.out
  have hQ := rightP_of hS
  have hg1 := cellLater (b3 w (.cells #[.slice a len cap, .int .i64 gap, .slice a' np cap'] 26) (.cells #[.slice c np nc] 30) (.cells #[.int .i64 0, .int .i64 0, .int .i64 0, .int .i64 0] 33)) hg
  obtain ⟨⟨e0, e1, e2, e3⟩, hE⟩ : ∃ vv, orC (three g gap np f P) = vv := ⟨_, rfl⟩
  have hor := three_or g gap np f P
  rw [hE]
  unfold three at hE hor
  obtain ⟨⟨p0, p1, p2, p3⟩, hp1⟩ : ∃ vv, firstC np (fun i => (f i).nl) (soonC f P) = vv := ⟨_, rfl⟩
  obtain ⟨⟨q0, q1, q2, q3⟩, hq1⟩ : ∃ vv, firstC np (fun i => (f i).nl) (takenC gap np f P) = vv := ⟨_, rfl⟩
  obtain ⟨⟨s0, s1, s2, s3⟩, hs1⟩ : ∃ vv, firstC np (fun i => (f i).nl) (fullC g np f P) = vv := ⟨_, rfl⟩
  rw [hp1, hq1, hs1] at hE hor
  go_enter Tryz.func7, Tryz.ntmps7
  go_wp2_with (first | (go_at_call 22; refine (hasShape_yes _ _ _ g _ _ _ _ f _ _ _ P _ hl hp hp hml hmp (hI.grow (b3 _ _ _ _)) (hT.grow (b3 _ _ _ _)) (hP.grow (b3 _ _ _ _)) hg1 hF).mono ?_; rw [hS]; rintro _ w2 ⟨rfl, hB2⟩; have hB := Below.join (b3 w _ _ _) (Nat.le_refl _) hB2; replace hX := hX.later hB2; have x0 := hX.l0; have x1 := hX.l1; have x2 := hX.l2; have y0 := hX.p0) | (go_at_call 23; refine (whoHas_any _ _ _ g _ _ _ _ f _ _ P _ hR hG hQ (hT.grow hB) (hP.grow hB)).mono ?_; rintro _ w3 ⟨⟨b0, bT, bS, mT, mS, rfl, hGr⟩, hB3⟩; replace hX := hX.later hB3; replace hB := Below.join hB (Nat.le_refl _) hB3; clear x0 x1 x2 y0))
  have hN := b1 w3 (.cells #[.slice a' np cap', .slice c np nc, .slice a len cap, .map (some bT), .map (some bS)] 62)
  obtain ⟨⟨h0, h1, h2, h3, h4⟩, _⟩ := box5 (Go.heap_alloc_new w3 (.cells #[.slice a' np cap', .slice c np nc, .slice a len cap, .map (some bT), .map (some bS)] 62))
  have lw : w.heap.size + 1 + 1 < w3.heap.size := ltCell hX.r0
  refine nameW fun W hW => ?_
  rw [← hW] at hN h0 h1 h2 h3 h4
  clear hW
  replace hX := hX.later hN
  replace hB := Below.join hB (Nat.le_refl _) hN
  replace hGr := hGr.later hN
  clear hN hB2 hB3 hg1
  have hL1 : ∀ V : World, Below W.heap.size W V → ∀ (i k : Nat) (U : World), i < np → k < (f i).nl → Below V.heap.size V U → Calls Tryz.prog 26 #[.agg #[.slice a' np cap', .slice c np nc, .slice a len cap, .map (some bT), .map (some bS)], .int .i64 i, .int .i64 k] U fun e W' => e = .returned (clashV (soonC f P i k)) ∧ Below U.heap.size U W' := fun V hV i k U hi hk hU =>
    tooSoon_any a len cap a' np cap' f c nc bT bS P i k U hR hQ hi hk (hT.grow (Below.join (Below.join hB (Nat.le_refl _) hV) (Nat.le_refl _) hU)) (hP.grow (Below.join (Below.join hB (Nat.le_refl _) hV) (Nat.le_refl _) hU)) (hC.later (Below.join (Below.join hB (Nat.le_refl _) hV) (Nat.le_refl _) hU))
  have hL2 : ∀ V : World, Below W.heap.size W V → ∀ (i k : Nat) (U : World), i < np → k < (f i).nl → Below V.heap.size V U → Calls Tryz.prog 27 #[.agg #[.slice a' np cap', .slice c np nc, .slice a len cap, .map (some bT), .map (some bS)], .int .i64 i, .int .i64 k] U fun e W' => e = .returned (clashV (takenC gap np f P i k)) ∧ Below U.heap.size U W' := fun V hV i k U hi hk hU =>
    trackTaken_any a len cap g gap a' np cap' f c nc b0 bT bS 20 mT mS _ P i k U hR hG hQ hi hk (hT.grow (Below.join (Below.join hB (Nat.le_refl _) hV) (Nat.le_refl _) hU)) (hP.grow (Below.join (Below.join hB (Nat.le_refl _) hV) (Nat.le_refl _) hU)) ((hGr.later hV).later hU)
  have hL3 : ∀ V : World, Below W.heap.size W V → ∀ (i k : Nat) (U : World), i < np → k < (f i).nl → Below V.heap.size V U → Calls Tryz.prog 28 #[.agg #[.slice a' np cap', .slice c np nc, .slice a len cap, .map (some bT), .map (some bS)], .int .i64 i, .int .i64 k] U fun e W' => e = .returned (clashV (fullC g np f P i k)) ∧ Below U.heap.size U W' := fun V hV i k U hi hk hU =>
    stationFull_any a len cap g gap a' np cap' f c nc b0 bT bS 20 mT mS _ P i k U hR hG hQ hi hk (hI.grow (Below.join (Below.join hB (Nat.le_refl _) hV) (Nat.le_refl _) hU)) (hT.grow (Below.join (Below.join hB (Nat.le_refl _) hV) (Nat.le_refl _) hU)) (hP.grow (Below.join (Below.join hB (Nat.le_refl _) hV) (Nat.le_refl _) hU)) ((hGr.later hV).later hU)
  have hTW : ∀ V : World, Below W.heap.size W V → IsTrains 0 V.heap.size V a' np f := fun V hV => hT.grow (Below.join hB (Nat.le_refl _) hV)
  have hD0 : Below W.heap.size W W.drew := (Below.refl _ _).drew
  have hS0 : W.drew.cell? ⟨w3.heap.size, 0, none⟩ = some (.slice a' np cap') ∧ W.drew.cell? ⟨w3.heap.size, 1, none⟩ = some (.slice c np nc) ∧ W.drew.cell? ⟨w3.heap.size, 2, none⟩ = some (.slice a len cap) ∧ W.drew.cell? ⟨w3.heap.size, 3, none⟩ = some (.map (some bT)) ∧ W.drew.cell? ⟨w3.heap.size, 4, none⟩ = some (.map (some bS)) := ⟨h0, h1, h2, h3, h4⟩
  have hSV : ∀ V : World, Below W.heap.size W V → V.cell? ⟨w3.heap.size, 0, none⟩ = some (.slice a' np cap') ∧ V.cell? ⟨w3.heap.size, 1, none⟩ = some (.slice c np nc) ∧ V.cell? ⟨w3.heap.size, 2, none⟩ = some (.slice a len cap) ∧ V.cell? ⟨w3.heap.size, 3, none⟩ = some (.map (some bT)) ∧ V.cell? ⟨w3.heap.size, 4, none⟩ = some (.map (some bS)) := fun V hV => ⟨cellLater hV h0, cellLater hV h1, cellLater hV h2, cellLater hV h3, cellLater hV h4⟩
  clear hGr
  have hF1 := fun V hV => firstSoon_any a len cap a' np cap' f c nc bT bS (soonC f P) V hR (hTW V hV) (fun i k _ _ => soonC_or f P i k) (hL1 V hV)
  have hF2 := fun V hV => firstTaken_any a len cap a' np cap' f c nc bT bS (takenC gap np f P) V hR (hTW V hV) (fun i k _ _ => takenC_or gap np f P i k) (hL2 V hV)
  have hF3 := fun V hV => firstFull_any a len cap a' np cap' f c nc bT bS (fullC g np f P) V hR (hTW V hV) (fun i k _ _ => fullC_or g np f P i k) (hL3 V hV)
  rw [hp1] at hF1
  rw [hq1] at hF2
  rw [hs1] at hF3
  have hO := fun V : World => or_any V.heap.size 0 3 (tri (p0, p1, p2, p3) (q0, q1, q2, q3) (s0, s1, s2, s3)) _ (fun k _ => hor k) (cells12 V p0 p1 p2 p3 q0 q1 q2 q3 s0 s1 s2 s3 33)
  rw [hE] at hO
  dsimp only [clashV] at hF1 hF2 hF3 hO
  have hXW : ∀ V : World, Below W.heap.size W V → Boxes w V a len cap gap a' np cap' c np nc := fun V hV => hX.later hV
  have hne3 : w3.heap.size ≠ w.heap.size + 1 + 1 := by omega
  clear hL1 hL2 hL3 hTW hor hp1 hq1 hs1 hE h0 h1 h2 h3 h4
  have hF1' : Hid _ := hF1
  have hF2' : Hid _ := hF2
  have hF3' : Hid _ := hF3
  have hO' : Hid _ := hO
  have hSV' : Hid _ := hSV
  have hXW' : Hid _ := hXW
  clear hF1 hF2 hF3 hO hSV hXW
  refine wp_region_held_drew (S := (fun w' => w'.cell? ⟨w3.heap.size, 0, none⟩ = some (.slice a' np cap') ∧ w'.cell? ⟨w3.heap.size, 1, none⟩ = some (.slice c np nc) ∧ w'.cell? ⟨w3.heap.size, 2, none⟩ = some (.slice a len cap) ∧ w'.cell? ⟨w3.heap.size, 3, none⟩ = some (.map (some bT)) ∧ w'.cell? ⟨w3.heap.size, 4, none⟩ = some (.map (some bS)))) (by kernel_rfl) hS0 (fun hHeld => ?_)
  refine wpAnyH_take (i := 0) (oi := { dst := some 14, op := Go.Op.load 62 (Go.Operand.tmp 5), type := 62, pos := "l2_plan.go:47", after := #[], guard := none }) (v := ?vv0) rfl (by kernel_rfl) (by kernel_rfl) (by kernel_rfl) (fun _ _ _ h => h) (Or.inl ⟨by rfl, ?hy0⟩) (by assumption) ?rest0
  case hy0 =>
    intro w hSw
    (try dsimp only at hSw)
    go_simp
    (try with_reducible rfl)
  simp only [Act.put, List.setIfInBounds_toArray, List.set_cons_zero, List.set_cons_succ]
  refine wpAnyH_take (i := 1) (oi := { dst := some 15, op := Go.Op.load 62 (Go.Operand.tmp 5), type := 62, pos := "l2_plan.go:47", after := #[], guard := none }) (v := ?vv1) rfl (by kernel_rfl) (by kernel_rfl) (by kernel_rfl) (fun _ _ _ h => h) (Or.inl ⟨by rfl, ?hy1⟩) (by assumption) ?rest1
  case hy1 =>
    intro w hSw
    (try dsimp only at hSw)
    go_simp
    (try with_reducible rfl)
  simp only [Act.put, List.setIfInBounds_toArray, List.set_cons_zero, List.set_cons_succ]
  refine wpAnyH_take (i := 2) (oi := { dst := some 16, op := Go.Op.makeFunc (Go.Fn.func 26) #[Go.Operand.tmp 15] #[], type := 66, pos := "l2_plan.go:47", after := #[{ on := 1, ground := Go.Ground.data }], guard := none }) (v := ?vv2) rfl (by kernel_rfl) (by kernel_rfl) (by kernel_rfl) (fun _ _ _ h => h) (Or.inl ⟨by rfl, ?hy2⟩) (by assumption) ?rest2
  case hy2 =>
    intro w hSw
    (try dsimp only at hSw)
    go_simp
    (try with_reducible rfl)
  simp only [Act.put, List.setIfInBounds_toArray, List.set_cons_zero, List.set_cons_succ]
  refine wpAnyH_take (i := 4) (oi := { dst := some 18, op := Go.Op.load 62 (Go.Operand.tmp 5), type := 62, pos := "l2_plan.go:47", after := #[], guard := none }) (v := ?vv4) rfl (by kernel_rfl) (by kernel_rfl) (by kernel_rfl) (fun _ _ _ h => h) (Or.inl ⟨by rfl, ?hy4⟩) (by assumption) ?rest4
  case hy4 =>
    intro w hSw
    (try dsimp only at hSw)
    go_simp
    (try with_reducible rfl)
  simp only [Act.put, List.setIfInBounds_toArray, List.set_cons_zero, List.set_cons_succ]
  refine wpAnyH_take (i := 5) (oi := { dst := some 19, op := Go.Op.load 62 (Go.Operand.tmp 5), type := 62, pos := "l2_plan.go:47", after := #[], guard := none }) (v := ?vv5) rfl (by kernel_rfl) (by kernel_rfl) (by kernel_rfl) (fun _ _ _ h => h) (Or.inl ⟨by rfl, ?hy5⟩) (by assumption) ?rest5
  case hy5 =>
    intro w hSw
    (try dsimp only at hSw)
    go_simp
    (try with_reducible rfl)
  simp only [Act.put, List.setIfInBounds_toArray, List.set_cons_zero, List.set_cons_succ]
  refine wpAnyH_take (i := 6) (oi := { dst := some 20, op := Go.Op.makeFunc (Go.Fn.func 27) #[Go.Operand.tmp 19] #[], type := 66, pos := "l2_plan.go:47", after := #[{ on := 5, ground := Go.Ground.data }], guard := none }) (v := ?vv6) rfl (by kernel_rfl) (by kernel_rfl) (by kernel_rfl) (fun _ _ _ h => h) (Or.inl ⟨by rfl, ?hy6⟩) (by assumption) ?rest6
  case hy6 =>
    intro w hSw
    (try dsimp only at hSw)
    go_simp
    (try with_reducible rfl)
  simp only [Act.put, List.setIfInBounds_toArray, List.set_cons_zero, List.set_cons_succ]
  refine wpAnyH_take (i := 8) (oi := { dst := some 22, op := Go.Op.load 62 (Go.Operand.tmp 5), type := 62, pos := "l2_plan.go:47", after := #[], guard := none }) (v := ?vv8) rfl (by kernel_rfl) (by kernel_rfl) (by kernel_rfl) (fun _ _ _ h => h) (Or.inl ⟨by rfl, ?hy8⟩) (by assumption) ?rest8
  case hy8 =>
    intro w hSw
    (try dsimp only at hSw)
    go_simp
    (try with_reducible rfl)
  simp only [Act.put, List.setIfInBounds_toArray, List.set_cons_zero, List.set_cons_succ]
  refine wpAnyH_take (i := 9) (oi := { dst := some 23, op := Go.Op.load 62 (Go.Operand.tmp 5), type := 62, pos := "l2_plan.go:47", after := #[], guard := none }) (v := ?vv9) rfl (by kernel_rfl) (by kernel_rfl) (by kernel_rfl) (fun _ _ _ h => h) (Or.inl ⟨by rfl, ?hy9⟩) (by assumption) ?rest9
  case hy9 =>
    intro w hSw
    (try dsimp only at hSw)
    go_simp
    (try with_reducible rfl)
  simp only [Act.put, List.setIfInBounds_toArray, List.set_cons_zero, List.set_cons_succ]
  refine wpAnyH_take (i := 10) (oi := { dst := some 24, op := Go.Op.makeFunc (Go.Fn.func 28) #[Go.Operand.tmp 23] #[], type := 66, pos := "l2_plan.go:47", after := #[{ on := 9, ground := Go.Ground.data }], guard := none }) (v := ?vv10) rfl (by kernel_rfl) (by kernel_rfl) (by kernel_rfl) (fun _ _ _ h => h) (Or.inl ⟨by rfl, ?hy10⟩) (by assumption) ?rest10
  case hy10 =>
    intro w hSw
    (try dsimp only at hSw)
    go_simp
    (try with_reducible rfl)
  simp only [Act.put, List.setIfInBounds_toArray, List.set_cons_zero, List.set_cons_succ]
  refine wpAnyH_ready (rs := [3]) (by kernel_rfl) (by simp) ?_
  refine AllReadyH.cons (o := { dst := some 17, op := Go.Op.call { callee := Go.Callee.value (Go.Operand.func 25), args := #[Go.Operand.tmp 14, Go.Operand.tmp 16], argTypes := #[62, 66] }, type := 33, pos := "l2_plan.go:47", after := #[{ on := 0, ground := Go.Ground.data }, { on := 2, ground := Go.Ground.data }], guard := none }) rfl (fun K hK => ?_) AllReadyH.nil
  go_simp
  refine (hF1'.out _ hD0).mono ?_
  rintro _ V1 ⟨rfl, hB1⟩
  have hD1 := Below.join hD0 (Nat.le_refl _) hB1
  refine hK.out _ _ (hSV'.out _ hD1) (fun hHeld => ?_)
  clear hK K
  (try simp only [Act.put, List.setIfInBounds_toArray, List.set_cons_zero, List.set_cons_succ])
  refine wpAnyH_ready (rs := [7]) (by kernel_rfl) (by simp) ?_
  refine AllReadyH.cons (o := { dst := some 21, op := Go.Op.call { callee := Go.Callee.value (Go.Operand.func 25), args := #[Go.Operand.tmp 18, Go.Operand.tmp 20], argTypes := #[62, 66] }, type := 33, pos := "l2_plan.go:47", after := #[{ on := 4, ground := Go.Ground.data }, { on := 6, ground := Go.Ground.data }, { on := 3, ground := Go.Ground.chain }], guard := none }) rfl (fun K hK => ?_) AllReadyH.nil
  go_simp
  refine (hF2'.out _ hD1).mono ?_
  rintro _ V2 ⟨rfl, hB2⟩
  have hD2 := Below.join hD1 (Nat.le_refl _) hB2
  refine hK.out _ _ (hSV'.out _ hD2) (fun hHeld => ?_)
  clear hK K
  (try simp only [Act.put, List.setIfInBounds_toArray, List.set_cons_zero, List.set_cons_succ])
  refine wpAnyH_ready (rs := [11]) (by kernel_rfl) (by simp) ?_
  refine AllReadyH.cons (o := { dst := some 25, op := Go.Op.call { callee := Go.Callee.value (Go.Operand.func 25), args := #[Go.Operand.tmp 22, Go.Operand.tmp 24], argTypes := #[62, 66] }, type := 33, pos := "l2_plan.go:47", after := #[{ on := 8, ground := Go.Ground.data }, { on := 10, ground := Go.Ground.data }, { on := 7, ground := Go.Ground.chain }], guard := none }) rfl (fun K hK => ?_) AllReadyH.nil
  go_simp
  refine (hF3'.out _ hD2).mono ?_
  rintro _ V3 ⟨rfl, hB3⟩
  have hD3 := Below.join hD2 (Nat.le_refl _) hB3
  refine hK.out _ _ (hSV'.out _ hD3) (fun hHeld => ?_)
  clear hK K
  (try simp only [Act.put, List.setIfInBounds_toArray, List.set_cons_zero, List.set_cons_succ])
  refine wpAnyH_ready (rs := [12]) (by kernel_rfl) (by simp) ?_
  refine AllReadyH.cons (o := { dst := some 26, op := Go.Op.buildSlice 107 3 #[(0, Go.Operand.tmp 17), (1, Go.Operand.tmp 21), (2, Go.Operand.tmp 25)], type := 107, pos := "l2_plan.go:47", after := #[{ on := 3, ground := Go.Ground.data }, { on := 7, ground := Go.Ground.data }, { on := 11, ground := Go.Ground.data }], guard := none }) rfl (fun K hK => ?_) AllReadyH.nil
  go_simp
  have hD4 := Below.join hD3 (Nat.le_refl _) (b1 V3 (.cells #[.int .i64 p0, .int .i64 p1, .int .i64 p2, .int .i64 p3, .int .i64 q0, .int .i64 q1, .int .i64 q2, .int .i64 q3, .int .i64 s0, .int .i64 s1, .int .i64 s2, .int .i64 s3] 33))
  refine hK.out _ _ (hSV'.out _ hD4) (fun hHeld => ?_)
  clear hK K
  (try simp only [Act.put, List.setIfInBounds_toArray, List.set_cons_zero, List.set_cons_succ])
  refine wpAnyH_ready (rs := [13]) (by kernel_rfl) (by simp) ?_
  refine AllReadyH.cons (o := { dst := some 27, op := Go.Op.call { callee := Go.Callee.value (Go.Operand.func 24), args := #[Go.Operand.tmp 26], argTypes := #[107] }, type := 33, pos := "l2_plan.go:47", after := #[{ on := 12, ground := Go.Ground.data }, { on := 11, ground := Go.Ground.chain }], guard := none }) rfl (fun K hK => ?_) AllReadyH.nil
  go_simp
  refine (hO'.out _).mono ?_
  rintro _ V5 ⟨rfl, hB5⟩
  have hD5 := Below.join hD4 (Nat.le_refl _) hB5
  have hSe := hSV'.out _ hD5
  have hX5 := hXW'.out _ hD5
  have r0 := hX5.r0
  have r1 := hX5.r1
  have r2 := hX5.r2
  have r3 := hX5.r3
  have z0 := hX5.z0
  have z1 := hX5.z1
  have z2 := hX5.z2
  have z3 := hX5.z3
  refine hK.out _ _ hSe (fun hHeld => ?_)
  clear hK K
  (try simp only [Act.put, List.setIfInBounds_toArray, List.set_cons_zero, List.set_cons_succ])
  refine wpAnyH_ready (rs := [14]) (by kernel_rfl) (by simp) ?_
  refine AllReadyH.cons (o := { dst := none, op := Go.Op.store 33 (Go.Operand.tmp 4) (Go.Operand.tmp 27), type := 0, pos := "l2_plan.go:47", after := #[{ on := 13, ground := Go.Ground.data }, { on := 13, ground := Go.Ground.chain }, { on := 0, ground := Go.Ground.phase }, { on := 1, ground := Go.Ground.phase }, { on := 2, ground := Go.Ground.phase }, { on := 3, ground := Go.Ground.phase }, { on := 4, ground := Go.Ground.phase }, { on := 5, ground := Go.Ground.phase }, { on := 6, ground := Go.Ground.phase }, { on := 7, ground := Go.Ground.phase }, { on := 8, ground := Go.Ground.phase }, { on := 9, ground := Go.Ground.phase }, { on := 10, ground := Go.Ground.phase }, { on := 11, ground := Go.Ground.phase }, { on := 12, ground := Go.Ground.phase }, { on := 13, ground := Go.Ground.phase }], guard := none }) rfl (fun K hK => ?_) AllReadyH.nil
  go_simp
  have hSf := And.intro (set4_cell hSe.1 hne3 (.int .i64 e0) (.int .i64 e1) (.int .i64 e2) (.int .i64 e3)) (And.intro (set4_cell hSe.2.1 hne3 (.int .i64 e0) (.int .i64 e1) (.int .i64 e2) (.int .i64 e3)) (And.intro (set4_cell hSe.2.2.1 hne3 (.int .i64 e0) (.int .i64 e1) (.int .i64 e2) (.int .i64 e3)) (And.intro (set4_cell hSe.2.2.2.1 hne3 (.int .i64 e0) (.int .i64 e1) (.int .i64 e2) (.int .i64 e3)) (set4_cell hSe.2.2.2.2 hne3 (.int .i64 e0) (.int .i64 e1) (.int .i64 e2) (.int .i64 e3)))))
  refine hK.out _ _ hSf (fun hHeld => ?_)
  clear hK K
  (try simp only [Act.put, List.setIfInBounds_toArray, List.set_cons_zero, List.set_cons_succ])
  refine wpAnyH_done (by kernel_rfl) ?_ _
  all_goals
    go_wp2
    refine bodyPost_ret (v := .agg #[.int .i64 e0, .int .i64 e1, .int .i64 e2, .int .i64 e3]) (by simp [results, Tryz.results7, go_sem, r0, r1, r2, r3]) rfl ⟨rfl, ?_⟩
    exact below_set4 (Below.join hB (Nat.le_refl _) hD5) (by omega) _ _ _ _
end Go.Proofs.YtelickcfodcmaaaGreatDoor

namespace Go.Proofs.YtelickcfodcmaaaGreatDoor
open Go.RowKit

theorem firstBad_congr {p q : Nat → Bool} : ∀ {n : Nat}, (∀ j, j < n → p j = q j) → firstBad p n = firstBad q n
  | 0, _ => rfl
  | n + 1, h => by rw [firstBad, firstBad, firstBad_congr (n := n) (fun j hj => h j (by omega)), h n (by omega)]
theorem firstBad_spec {p : Nat → Bool} : ∀ {n k : Nat}, firstBad p n = some k → k < n ∧ p k = false
  | n + 1, k, h => by
    rw [firstBad] at h
    cases hF : firstBad p n with
    | some i =>
      rw [hF] at h
      obtain ⟨h1, h2⟩ := firstBad_spec hF
      cases h
      exact ⟨by omega, h2⟩
    | none =>
      rw [hF] at h
      cases hp : p n with
      | true => rw [hp] at h; cases h
      | false =>
        rw [hp] at h
        simp at h
        subst h
        exact ⟨by omega, hp⟩
theorem first2_congr {n : Nat} {len : Nat → Nat} {p q : Nat → Nat → Bool} (h : ∀ i, i < n → ∀ k, k < len i → p i k = q i k) : first2 n len p = first2 n len q := by
  have h1 : ∀ i, i < n → firstBad (p i) (len i) = firstBad (q i) (len i) := fun i hi => firstBad_congr (h i hi)
  have h2 : firstBad (fun i => (firstBad (p i) (len i)).isNone) n = firstBad (fun i => (firstBad (q i) (len i)).isNone) n := firstBad_congr (fun i hi => by rw [h1 i hi])
  unfold first2
  rw [h2]
  cases hF : firstBad (fun i => (firstBad (q i) (len i)).isNone) n with
  | none => rfl
  | some i =>
    obtain ⟨hi, _⟩ := firstBad_spec hF
    simp only [h1 i hi]
theorem first2_spec {n : Nat} {len : Nat → Nat} {p : Nat → Nat → Bool} {i k : Nat} (h : first2 n len p = some (i, k)) : i < n ∧ k < len i ∧ p i k = false := by
  unfold first2 at h
  cases hF : firstBad (fun i => (firstBad (p i) (len i)).isNone) n with
  | none => rw [hF] at h; cases h
  | some j =>
    rw [hF] at h
    simp only at h
    cases hG : firstBad (p j) (len j) with
    | none => rw [hG] at h; cases h
    | some m =>
      rw [hG] at h
      cases h
      exact ⟨(firstBad_spec hF).1, firstBad_spec hG⟩
theorem first2_all {n : Nat} {len : Nat → Nat} {p : Nat → Nat → Bool} (h : first2 n len p = none) : ∀ i, i < n → ∀ k, k < len i → p i k = true := by
  intro i hi k hk
  unfold first2 at h
  cases hF : firstBad (fun i => (firstBad (p i) (len i)).isNone) n with
  | none =>
    have h1 := firstBad_all hF i hi
    exact firstBad_all (Option.isNone_iff_eq_none.1 h1) k hk
  | some j =>
    rw [hF] at h
    simp only at h
    have h2 := (firstBad_spec hF).2
    cases hG : firstBad (p j) (len j) with
    | none => rw [hG] at h2; cases h2
    | some m => rw [hG] at h; cases h

theorem takenC_eq (gap : Int) (np : Nat) (f : Nat → TrainD) (P : Nat → RowD) (i k : Nat) : takenC gap np f P i k = match withOf gap np f P i k with | some j => (3, (i : Int), (k : Int), (j : Int)) | none => (0, 0, 0, 0) := by
  unfold takenC
  cases hF : (listT gap np f P (trackOf (f i) k)).find? (hitB i ((P i).s k)) with
  | none =>
    rw [withOf_list_none (fun x hx => by have := List.find?_eq_none.1 hF x hx; simpa using this)]
  | some h =>
    obtain ⟨hp, L1, L2, e, hn⟩ := List.find?_eq_some_iff_append.1 hF
    rw [withOf_list_some e hp (fun y hy => by have := hn y hy; simpa using this)]

theorem leaves_ge {len np : Nat} {f : Nat → TrainD} {P : Nat → RowD} (hR : RightL len np f) (hQ : RightP np f np P) (h2 : ∀ i, i < np → ∀ k, k < (f i).nl → readyOf f P i k ≤ (P i).s k) {i : Nat} (hi : i < np) : ∀ m, m < (f i).nl → (P i).s m ≤ leavesOf f P i m := by
  intro m hm
  have h1 := (hR.train i hi).leg m hm
  unfold leavesOf
  rw [hQ.row i hi]
  split
  · rename_i hlt
    have h3 := h2 i hi (m + 1) hlt
    have h4 := (hR.train i hi).leg (m + 1) hlt
    simp only [readyOf] at h3
    omega
  · omega

theorem orC_clash {len np : Nat} {g : Nat → Int} {gap : Int} {f : Nat → TrainD} {P : Nat → RowD} (hF : faultOf len g gap np f = (0, 0)) (hS : shapeB np f np P = true) : orC (three g gap np f P) = clashOf len g gap np f np P := by
  have hR := rightL_of hF
  have hQ := rightP_of hS
  unfold clashOf
  rw [if_pos ⟨by rw [hF], hS⟩]
  have eA : ∀ i k, decide ((soonC f P i k).1 = 0) = decide (readyOf f P i k ≤ (P i).s k) := fun i k => by
    unfold soonC
    split
    · rw [decide_eq_false (by simp), decide_eq_false (by omega)]
    · rw [decide_eq_true (by simp), decide_eq_true (by omega)]
  have eB : ∀ i k, decide ((takenC gap np f P i k).1 = 0) = (withOf gap np f P i k).isNone := fun i k => by
    rw [takenC_eq]
    cases withOf gap np f P i k <;> simp
  have hA : first2 np (fun i => (f i).nl) (fun i k => decide ((soonC f P i k).1 = 0)) = first2 np (fun i => (f i).nl) (fun i k => decide (readyOf f P i k ≤ (P i).s k)) := first2_congr (fun i _ k _ => eA i k)
  have hB : first2 np (fun i => (f i).nl) (fun i k => decide ((takenC gap np f P i k).1 = 0)) = first2 np (fun i => (f i).nl) (fun i k => (withOf gap np f P i k).isNone) := first2_congr (fun i _ k _ => eB i k)
  unfold orC three
  simp only [tri]
  cases h2 : first2 np (fun i => (f i).nl) (fun i k => decide (readyOf f P i k ≤ (P i).s k)) with
  | some ik =>
    obtain ⟨i, k⟩ := ik
    have hb := (first2_spec h2).2.2
    have e : firstC np (fun i => (f i).nl) (soonC f P) = (2, (i : Int), (k : Int), 0) := by
      unfold firstC
      rw [hA, h2]
      simp only
      unfold soonC
      rw [if_pos (by have := of_decide_eq_false hb; omega)]
    rw [e]
    simp
  | none =>
    have hall := first2_all h2
    have e : firstC np (fun i => (f i).nl) (soonC f P) = (0, 0, 0, 0) := by
      unfold firstC
      rw [hA, h2]
    rw [e]
    simp only [ne_eq, not_true_eq_false, if_false]
    cases h3 : first2 np (fun i => (f i).nl) (fun i k => (withOf gap np f P i k).isNone) with
    | some ik =>
      obtain ⟨i, k⟩ := ik
      have hb := (first2_spec h3).2.2
      have e : firstC np (fun i => (f i).nl) (takenC gap np f P) = (3, (i : Int), (k : Int), (((withOf gap np f P i k).getD 0 : Nat) : Int)) := by
        unfold firstC
        rw [hB, h3]
        simp only
        rw [takenC_eq]
        cases hw : withOf gap np f P i k with
        | none => rw [hw] at hb; cases hb
        | some j => rfl
      rw [e]
      simp
    | none =>
      have e : firstC np (fun i => (f i).nl) (takenC gap np f P) = (0, 0, 0, 0) := by
        unfold firstC
        rw [hB, h3]
      rw [e]
      simp only [not_true_eq_false, if_false]
      have eC : ∀ i, i < np → ∀ k, k < (f i).nl → fullC g np f P i k = if fullB g np f P i k = true then (4, (i : Int), (k : Int), 0) else (0, 0, 0, 0) := fun i hi k hk => by
        have hc := countAll_list (k := k) (leaves_ge hR hQ (fun i hi k hk => of_decide_eq_true (hall i hi k hk)) hi) np
        unfold fullC fullB listS
        rw [hc]
        simp only [decide_eq_true_eq]
      have hC : first2 np (fun i => (f i).nl) (fun i k => decide ((fullC g np f P i k).1 = 0)) = first2 np (fun i => (f i).nl) (fun i k => !fullB g np f P i k) := first2_congr (fun i hi k hk => by
        rw [eC i hi k hk]
        cases fullB g np f P i k <;> simp)
      cases h4 : first2 np (fun i => (f i).nl) (fun i k => !fullB g np f P i k) with
      | some ik =>
        obtain ⟨i, k⟩ := ik
        obtain ⟨hi, hk, hb⟩ := first2_spec h4
        have e : firstC np (fun i => (f i).nl) (fullC g np f P) = (4, (i : Int), (k : Int), 0) := by
          unfold firstC
          rw [hC, h4]
          simp only
          rw [eC i hi k hk, if_pos (by simpa using hb)]
        rw [e]
        simp
      | none =>
        have e : firstC np (fun i => (f i).nl) (fullC g np f P) = (0, 0, 0, 0) := by
          unfold firstC
          rw [hC, h4]
        rw [e]
        simp

theorem clashOf_no {nt : Nat} {g : Nat → Int} {gap : Int} {ntr : Nat} {f : Nat → TrainD} {np : Nat} {P : Nat → RowD} (h : ¬ ((faultOf nt g gap ntr f).1 = 0 ∧ shapeB ntr f np P = true)) : clashOf nt g gap ntr f np P = (1, 0, 0, 0) := by
  unfold clashOf; rw [if_neg h]

set_option maxRecDepth 20000 in
set_option maxHeartbeats 4000000 in
theorem implCheck_line (a : Option Addr) (len cap : Nat) (g : Nat → Int) (gap : Int) (a' : Option Addr) (len' cap' : Nat) (f : Nat → TrainD) (c : Option Addr) (np nc : Nat) (w : World) (hl : len ≤ 1048576) (hl' : len' ≤ 1048576) (hml : ∀ j, j < len' → (f j).nl ≤ 1048576)
    (hI : IsInts 0 w.heap.size w a len g) (hT : IsTrains 0 w.heap.size w a' len' f) (hg : w.cell? ⟨0, 0, none⟩ = some (.iface 234 (.agg #[.pointer (some ⟨1, 165, none⟩)]))) (hF : Hid ((faultOf len g gap len' f).1 ≠ 0)) :
    Calls Tryz.prog 7 #[.agg #[.slice a len cap, .int .i64 gap, .slice a' len' cap'], .agg #[.slice c np nc]] w fun e w' => e = .returned (.agg #[.int .i64 1, .int .i64 0, .int .i64 0, .int .i64 0]) ∧ Below w.heap.size w w' := by
  have hX := Boxes.new w a len cap gap a' len' cap' c np nc 26 30 33
  have hg1 := cellLater (b3 w (.cells #[.slice a len cap, .int .i64 gap, .slice a' len' cap'] 26) (.cells #[.slice c np nc] 30) (.cells #[.int .i64 0, .int .i64 0, .int .i64 0, .int .i64 0] 33)) hg
  go_enter Tryz.func7, Tryz.ntmps7
  go_wp2_with (go_at_call 22; refine (hasShape_no _ _ _ g _ _ _ _ f _ _ _ _ hl hl' hml (hI.grow (b3 _ _ _ _)) (hT.grow (b3 _ _ _ _)) hg1 hF).mono ?_; rintro _ w2 ⟨rfl, hB2⟩; have hB := Below.join (b3 w _ _ _) (Nat.le_refl _) hB2; replace hX := hX.later hB2; have r0 := hX.r0; have r1 := hX.r1; have r2 := hX.r2; have r3 := hX.r3; have z0 := hX.z0; have z1 := hX.z1; have z2 := hX.z2; have z3 := hX.z3)
  refine bodyPost_ret (v := .agg #[.int .i64 1, .int .i64 0, .int .i64 0, .int .i64 0]) (by simp [results, Tryz.results7, go_sem, r0, r1, r2, r3]) rfl ⟨rfl, ?_⟩
  exact below_set4 hB (by omega) _ _ _ _

set_option maxRecDepth 20000 in
set_option maxHeartbeats 4000000 in
theorem implCheck_shape (a : Option Addr) (len cap : Nat) (g : Nat → Int) (gap : Int) (a' : Option Addr) (len' cap' : Nat) (f : Nat → TrainD) (c : Option Addr) (np nc : Nat) (P : Nat → RowD) (w : World) (hl : len ≤ 1048576) (hl' : len' ≤ 1048576) (hml : ∀ j, j < len' → (f j).nl ≤ 1048576) (hp : np ≤ 1048576) (hmp : ∀ j, j < np → (P j).n ≤ 1048576)
    (hI : IsInts 0 w.heap.size w a len g) (hT : IsTrains 0 w.heap.size w a' len' f) (hP : IsRows 0 w.heap.size w c np P) (hg : w.cell? ⟨0, 0, none⟩ = some (.iface 234 (.agg #[.pointer (some ⟨1, 165, none⟩)]))) (hF : Hid (faultOf len g gap len' f = (0, 0))) (hS : shapeB len' f np P = false) :
    Calls Tryz.prog 7 #[.agg #[.slice a len cap, .int .i64 gap, .slice a' len' cap'], .agg #[.slice c np nc]] w fun e w' => e = .returned (.agg #[.int .i64 1, .int .i64 0, .int .i64 0, .int .i64 0]) ∧ Below w.heap.size w w' := by
  have hX := Boxes.new w a len cap gap a' len' cap' c np nc 26 30 33
  have hg1 := cellLater (b3 w (.cells #[.slice a len cap, .int .i64 gap, .slice a' len' cap'] 26) (.cells #[.slice c np nc] 30) (.cells #[.int .i64 0, .int .i64 0, .int .i64 0, .int .i64 0] 33)) hg
  go_enter Tryz.func7, Tryz.ntmps7
  go_wp2_with (go_at_call 22; refine (hasShape_yes _ _ _ g _ _ _ _ f _ _ _ P _ hl hl' hp hml hmp (hI.grow (b3 _ _ _ _)) (hT.grow (b3 _ _ _ _)) (hP.grow (b3 _ _ _ _)) hg1 hF).mono ?_; rw [hS]; rintro _ w2 ⟨rfl, hB2⟩; have hB := Below.join (b3 w _ _ _) (Nat.le_refl _) hB2; replace hX := hX.later hB2; have r0 := hX.r0; have r1 := hX.r1; have r2 := hX.r2; have r3 := hX.r3; have z0 := hX.z0; have z1 := hX.z1; have z2 := hX.z2; have z3 := hX.z3)
  refine bodyPost_ret (v := .agg #[.int .i64 1, .int .i64 0, .int .i64 0, .int .i64 0]) (by simp [results, Tryz.results7, go_sem, r0, r1, r2, r3]) rfl ⟨rfl, ?_⟩
  exact below_set4 hB (by omega) _ _ _ _

/-- the program's Check -/
theorem implCheck_any (a : Option Addr) (len cap : Nat) (g : Nat → Int) (gap : Int) (a' : Option Addr) (len' cap' : Nat) (f : Nat → TrainD) (c : Option Addr) (np nc : Nat) (P : Nat → RowD) (w : World) (hl : len ≤ 1048576) (hl' : len' ≤ 1048576) (hml : ∀ j, j < len' → (f j).nl ≤ 1048576) (hp : np ≤ 1048576) (hmp : ∀ j, j < np → (P j).n ≤ 1048576)
    (hI : IsInts 0 w.heap.size w a len g) (hT : IsTrains 0 w.heap.size w a' len' f) (hP : IsRows 0 w.heap.size w c np P) (hC : Caps w c np) (hg : w.cell? ⟨0, 0, none⟩ = some (.iface 234 (.agg #[.pointer (some ⟨1, 165, none⟩)]))) :
    Calls Tryz.prog 7 #[.agg #[.slice a len cap, .int .i64 gap, .slice a' len' cap'], .agg #[.slice c np nc]] w fun e w' => e = .returned (clashV (clashOf len g gap len' f np P)) ∧ Below w.heap.size w w' := by
  by_cases hF : (faultOf len g gap len' f).1 = 0
  · have hF0 := faultOf_snd hF
    cases hS : shapeB len' f np P
    · rw [clashOf_no (by simp [hS])]
      exact implCheck_shape a len cap g gap a' len' cap' f c np nc P w hl hl' hml hp hmp hI hT hP hg hF0 hS
    · obtain rfl : np = len' := (rightP_of hS).np
      have h := implCheck_main a len cap g gap a' np cap' f c nc P w hl hp hml hmp hI hT hP hC hg hF0 hS
      rw [orC_clash hF0 hS] at h
      exact h
  · rw [clashOf_no (by simp [hF])]
    exact implCheck_line a len cap g gap a' len' cap' f c np nc w hl hl' hml hI hT hg hF
end Go.Proofs.YtelickcfodcmaaaGreatDoor

namespace Go.Proofs.YtelickcfodcmaaaGreatDoor
open Go.RowKit

set_option maxHeartbeats 1000000 in
theorem latenessP_any (t : TrainD) (e : Int) (la : Option Addr) (lc : Nat) (w : World) (hR : RightT t) (h0 : 0 ≤ e) (h1 : e ≤ 1010000) :
    Calls Tryz.prog 38 #[.agg #[.int .i64 t.frm, .int .i64 t.ready, .int .i64 t.due, .int .i64 t.weight, .slice la t.nl lc], .int .i64 e] w fun ev w' => ev = .returned (.int .i64 (lateOf t e)) ∧ Below w.heap.size w w' := by
  have hd0 := hR.d0
  have hd1 := hR.d1
  have hw0 := hR.w0
  have hw1 := hR.w1
  obtain ⟨lb0, lb1⟩ := lateOf_bdP hR h0 h1
  by_cases hc : e ≤ t.due
  · have hL : lateOf t e = 0 := by unfold lateOf; rw [if_pos hc]
    rw [hL]
    clear hL lb0 lb1
    go_enter Tryz.func38, Tryz.ntmps38
    go_wp2
    go_ret
    exact ⟨rfl, b1 _ _⟩
  · have hL : lateOf t e = t.weight * (e - t.due) := by unfold lateOf; rw [if_neg hc]
    rw [hL] at lb0 lb1 ⊢
    clear hL
    go_enter Tryz.func38, Tryz.ntmps38
    go_wp2
    go_ret
    exact ⟨rfl, b1 _ _⟩

end Go.Proofs.YtelickcfodcmaaaGreatDoor

namespace Go.Proofs.YtelickcfodcmaaaGreatDoor
open Go.RowKit

set_option maxRecDepth 20000 in
set_option maxHeartbeats 8000000 in
theorem implCost_any (a : Option Addr) (len cap : Nat) (g : Nat → Int) (gap : Int) (a' : Option Addr) (len' cap' : Nat) (f : Nat → TrainD) (c : Option Addr) (np nc : Nat) (P : Nat → RowD) (w : World) (hl : len ≤ 1048576) (hl' : len' ≤ 1048576) (hml : ∀ j, j < len' → (f j).nl ≤ 1048576) (hp : np ≤ 1048576) (hmp : ∀ j, j < np → (P j).n ≤ 1048576)
    (hI : IsInts 0 w.heap.size w a len g) (hT : IsTrains 0 w.heap.size w a' len' f) (hP : IsRows 0 w.heap.size w c np P) (hC : Caps w c np) (hg : w.cell? ⟨0, 0, none⟩ = some (.iface 234 (.agg #[.pointer (some ⟨1, 165, none⟩)]))) :
    Calls Tryz.prog 10 #[.agg #[.slice a len cap, .int .i64 gap, .slice a' len' cap'], .agg #[.slice c np nc]] w fun e w' => e = .returned (.int .i64 (costOf len g gap len' f np P)) ∧ Below w.heap.size w w' := by
  obtain ⟨y0, y1, y2, u0⟩ := box2 w a len cap gap a' len' cap' c np nc 26 30
  have hN := b2 w (.cells #[.slice a len cap, .int .i64 gap, .slice a' len' cap'] 26) (.cells #[.slice c np nc] 30)
  have hCh := implCheck_any a len cap g gap a' len' cap' f c np nc P _ hl hl' hml hp hmp (hI.grow hN) (hT.grow hN) (hP.grow hN) (hC.later hN) (cellLater hN hg)
  rcases clashOf_or len g gap len' f np P with hz | hz
  · have hA : costOf len g gap len' f np P = costP f P len' := by unfold costOf; rw [if_pos hz]
    obtain ⟨hF, hS⟩ := clashOf_ok hz
    have hF0 := faultOf_snd hF
    have hR := rightL_of hF0
    have hQ := rightP_of hS
    obtain rfl : np = len' := hQ.np
    rw [hA]
    rw [hz] at hCh
    dsimp only [clashV] at hCh
    clear hA hz hF hF0 hS
    have htr := hR.tr
    go_enter Tryz.func10, Tryz.ntmps10
    go_wp2_with (go_at_call 7; refine hCh.mono ?_; rintro _ W ⟨rfl, hB2⟩; have hB := Below.join hN (Nat.le_refl _) hB2; have x2 := cellLater hB2 y2; have x3 := cellLater hB2 u0)
    clear hB2 hCh
    go_loopw [5, 16] (fun tt kk wr => ∃ (k : Nat), k ≤ np ∧ kk = .int .i64 k ∧ tt = .int .i64 (costP f P k) ∧ Below W.heap.size W wr) (fun _ kk _ => np - (intOf kk).toNat)
    case atStart => exact ⟨0, Nat.zero_le _, rfl, rfl, Below.refl _ _⟩
    case round =>
      obtain ⟨k, hk, rfl, rfl, hBw⟩ := hrel
      by_cases hlt : k < np
      · have hRk := hR.train k hlt
        have hb := costP_bd hR hQ k hk
        obtain ⟨en0, en1⟩ := endP_bd hR hQ hlt
        obtain ⟨la0, la1⟩ := lateOf_bdP hRk en0 en1
        have hk' : (k : Int) < (np : Int) := by omega
        have hk0 : (0 : Int) ≤ (k : Int) := by omega
        have hBk := Below.join hB (Nat.le_refl _) hBw
        have hpos := hR.pos k hlt
        obtain ⟨b, off, la, lc, rfl, _, hb', t0, t1, t2, t3, t4, hlg, _⟩ := hT k hlt
        obtain ⟨bp, op, lp, lpc, rfl, _, hbp, p0, hin, _⟩ := hP k hlt
        rw [hQ.row k hlt] at p0 hin
        replace t0 := cellLater hBk t0
        replace t1 := cellLater hBk t1
        replace t2 := cellLater hBk t2
        replace t3 := cellLater hBk t3
        replace t4 := cellLater hBk t4
        replace p0 := cellLater hBk p0
        replace x3 := cellLater hBw x3
        have hA1 := b1 wr (.cells #[.int .i64 (f k).frm, .int .i64 (f k).ready, .int .i64 (f k).due, .int .i64 (f k).weight, .slice la (f k).nl lc] 72)
        have hTb := Go.heap_alloc_new wr (.cells #[.int .i64 (f k).frm, .int .i64 (f k).ready, .int .i64 (f k).due, .int .i64 (f k).weight, .slice la (f k).nl lc] 72)
        go_wp2
        refine nameW fun V hV => ?_
        rw [← hV] at hA1 hTb
        clear hV t0 t1 t2 t3 t4
        replace x3 := cellLater hA1 x3
        replace p0 := cellLater hA1 p0
        have e0 := cell_of_row V wr.heap.size 0 _ _ _ hTb
        have e1 := cell_of_row V wr.heap.size 1 _ _ _ hTb
        have e2 := cell_of_row V wr.heap.size 2 _ _ _ hTb
        have e3 := cell_of_row V wr.heap.size 3 _ _ _ hTb
        have e4 := cell_of_row V wr.heap.size 4 _ _ _ hTb
        simp at e0 e1 e2 e3 e4
        have hBV := Below.join hBk (Nat.le_refl _) hA1
        have hEn : Calls Tryz.prog 39 #[.agg #[.int .i64 (f k).frm, .int .i64 (f k).ready, .int .i64 (f k).due, .int .i64 (f k).weight, .slice la (f k).nl lc], .slice lp (f k).nl lpc] V.drew fun x w' => x = .returned (.int .i64 (endP f P k)) ∧ Below V.drew.heap.size V.drew w' := by
          have hs := hQ.at0 k hlt ((f k).nl - 1) (by omega)
          have hin1 : IsInts 0 V.drew.heap.size V.drew lp ((f k).nl - 1 + 1) (P k).s := fun j hj => (hin.grow hBV.drew) j (by omega)
          have h := end_any (f k) ((f k).nl - 1) la lc (P k).s lp lpc V.drew (by omega) hRk hs.1 hs.2 (hlg.grow hBV.drew) hin1
          rw [Nat.sub_add_cancel hpos] at h
          exact h
        clear hTb hpos
        go_region_held3 (fun w' => w'.cell? ⟨wr.heap.size, 0, none⟩ = some (.int .i64 (f k).frm) ∧ w'.cell? ⟨wr.heap.size, 1, none⟩ = some (.int .i64 (f k).ready) ∧ w'.cell? ⟨wr.heap.size, 2, none⟩ = some (.int .i64 (f k).due) ∧ w'.cell? ⟨wr.heap.size, 3, none⟩ = some (.int .i64 (f k).weight) ∧ w'.cell? ⟨wr.heap.size, 4, none⟩ = some (.slice la (f k).nl lc) ∧ w'.cell? ⟨w.heap.size + 1, 0, none⟩ = some (.slice (some ⟨bp, op, none⟩) np nc) ∧ w'.cell? ⟨bp, op + k, none⟩ = some (.slice lp (f k).nl lpc)) (first | go_keep | (go_split_ands; refine ⟨?_, ?_, ?_, ?_, ?_, ?_, ?_⟩ <;> exact cellLater hB3 (by assumption)) | (go_split_ands; refine ⟨?_, ?_, ?_, ?_, ?_, ?_, ?_⟩ <;> exact cellLater hB4 (by assumption))) ((first | (go_at_call 39; refine hEn.mono ?_; rintro _ w3 ⟨rfl, hB3⟩) | (go_at_call 38; refine (latenessP_any (f k) _ _ _ _ hRk en0 en1).mono ?_; rintro _ w4 ⟨rfl, hB4⟩)))
        go_wp2
        go_roundw
        case rel => exact ⟨k + 1, by omega, by go_num, (by simp only [costP]; first | rfl | (rw [IntKind.wrap_i64]; congr 1; omega)), Below.join (Below.join (Below.join hBw (Nat.le_refl _) hA1.drew) (Nat.le_refl _) hB3) (Nat.le_refl _) hB4⟩
        case measure => simp [intOf]; omega
      · obtain rfl : k = np := by omega
        go_wp2
        go_ret
        exact ⟨rfl, Below.join hB (Nat.le_refl _) hBw⟩
  · have hA : costOf len g gap len' f np P = -1 := by unfold costOf; rw [if_neg (fun h => hz (by rw [h]))]
    rw [hA]
    clear hA
    generalize clashOf len g gap len' f np P = vq at hz hCh
    obtain ⟨v0, v1, v2, v3⟩ := vq
    dsimp only [clashV] at hz hCh
    have hz' : (v0 == 0) = false := by simpa using hz
    go_enter Tryz.func10, Tryz.ntmps10
    go_wp2_with (go_at_call 7; refine hCh.mono ?_; rintro _ w2 ⟨rfl, hB2⟩)
    go_ret
    exact ⟨rfl, Below.join hN (Nat.le_refl _) hB2⟩
end Go.Proofs.YtelickcfodcmaaaGreatDoor
