/-
  The program's Meets, and the model's: what each answers.
-/
import Derived.Test.YtmmkggkneefhoabGreatDoorImplN
import Derived.Test.YtmmkggkneefhoabGreatDoorImplD
import Derived.Test.YtmmkggkneefhoabGreatDoorSpecE
namespace Go.Proofs.YtmmkggkneefhoabGreatDoor
open Go.RowKit

theorem specMeets_any (a : Option Addr) (len cap : Nat) (g : Nat → Int) (gap : Int) (a' : Option Addr) (len' cap' : Nat) (f : Nat → TrainD) (c : Option Addr) (np nc : Nat) (P : Nat → RowD) (w : World) (hl : len ≤ 1048576) (hl' : len' ≤ 1048576) (hml : ∀ j, j < len' → (f j).nl ≤ 1048576) (hp : np ≤ 1048576) (hmp : ∀ j, j < np → (P j).n ≤ 1048576)
    (hI : IsInts 0 w.heap.size w a len g) (hT : IsTrains 0 w.heap.size w a' len' f) (hP : IsRows 0 w.heap.size w c np P) :
    Calls Tryz.prog 31 #[.agg #[.slice a len cap, .int .i64 gap, .slice a' len' cap'], .agg #[.slice c np nc]] w fun e w' => (∃ v, e = .returned v ∧ w'.ownsRow w.heap.size 108 5 v (meetsOf len g gap len' f np P).length (meetCells (meetsOf len g gap len' f np P))) ∧ Below w.heap.size w w' := by
  have hN := b2 w (.cells #[.slice a len cap, .int .i64 gap, .slice a' len' cap'] 35) (.cells #[.slice c np nc] 29)
  exact specMeets_from a len cap g gap a' len' cap' f c np nc P w hT hP (specCheck_any a len cap g gap a' len' cap' f c np nc P _ hl hl' hml hp hmp (hI.grow hN) (hT.grow hN) (hP.grow hN))

theorem Got.row {W wr w' : World} {v v' : Value} {L M : List MeetD} (h : Got W wr v L) (ho : w'.ownsRow W.heap.size 108 5 v' (L.length + M.length) (meetCells L ++ meetCells M)) (hg : wr.grownBy w' v.ownBlock) : Got W w' v' (L ++ M) :=
  ⟨by rw [meetCells_app, List.length_append]; exact ho, h.below.grown hg h.below.size (fun k hk => (h.own.lt k hk).1)⟩

set_option maxRecDepth 20000 in
set_option maxHeartbeats 8000000 in
theorem implMeets_any (a : Option Addr) (len cap : Nat) (g : Nat → Int) (gap : Int) (a' : Option Addr) (len' cap' : Nat) (f : Nat → TrainD) (c : Option Addr) (np nc : Nat) (P : Nat → RowD) (w : World) (hl : len ≤ 1048576) (hl' : len' ≤ 1048576) (hml : ∀ j, j < len' → (f j).nl ≤ 1048576) (hp : np ≤ 1048576) (hmp : ∀ j, j < np → (P j).n ≤ 1048576)
    (hI : IsInts 0 w.heap.size w a len g) (hT : IsTrains 0 w.heap.size w a' len' f) (hP : IsRows 0 w.heap.size w c np P) (hC : Caps w c np) (hg : w.cell? ⟨0, 0, none⟩ = some (.iface 259 (.agg #[.pointer (some ⟨1, 177, none⟩)]))) :
    Calls Tryz.prog 32 #[.agg #[.slice a len cap, .int .i64 gap, .slice a' len' cap'], .agg #[.slice c np nc]] w fun e w' => (∃ v, e = .returned v ∧ w'.ownsRow w.heap.size 108 5 v (meetsOf len g gap len' f np P).length (meetCells (meetsOf len g gap len' f np P))) ∧ Below w.heap.size w w' := by
  obtain ⟨y0, y1, y2, u0⟩ := box2 w a len cap gap a' len' cap' c np nc 35 29
  have hN := b2 w (.cells #[.slice a len cap, .int .i64 gap, .slice a' len' cap'] 35) (.cells #[.slice c np nc] 29)
  have hCh := implCheck_any a len cap g gap a' len' cap' f c np nc P _ hl hl' hml hp hmp (hI.grow hN) (hT.grow hN) (hP.grow hN) (hC.later hN) (cellLater hN hg)
  rcases clashOf_or len g gap len' f np P with hz | hz
  · have hA : meetsOf len g gap len' f np P = allM f P len' len' := by unfold meetsOf; rw [if_pos hz]
    obtain ⟨hF, hS⟩ := clashOf_ok hz
    have hF0 := faultOf_snd hF
    have hR := rightL_of hF0
    have hQ := rightP_of hS
    obtain rfl : np = len' := hQ.np
    rw [hA]
    rw [hz] at hCh
    dsimp only [clashV] at hCh
    clear hA hz hF hF0 hS
    have htr := hR.tr
    obtain ⟨i0, hi, hz0, hz1, hz2⟩ := info_parts Tryz.infoMeet
    have hln := fun i hi => allM_len P htr (fun j hj => (hR.train j hj).nl) i hi
    have hmn := fun i (hi : i < np) d hd => manyM_len P (fun j hj => (hR.train j hj).nl) hi d hd
    have hpn := fun i j (hj : j < np) k => pairM_len P (i := i) (hR.train j hj).nl k
    go_enter Tryz.func32, Tryz.ntmps32
    go_wp2_with (go_at_call 53; refine hCh.mono ?_; rintro _ W ⟨rfl, hB2⟩; have hB := Below.join hN (Nat.le_refl _) hB2; have x0 := cellLater hB2 y0; have x1 := cellLater hB2 y1; have x2 := cellLater hB2 y2; have x3 := cellLater hB2 u0)
    clear hB2 hCh y0 y1 y2 u0 hN
    go_loopw [5, 16] (fun v ii wr => ∃ (i : Nat), i ≤ np ∧ ii = .int .i64 i ∧ Got W wr v (allM f P np i)) (fun _ ii _ => np - (intOf ii).toNat)
    case atStart => exact ⟨0, Nat.zero_le _, rfl, World.ownsRow_nil _ _ _ _, Below.refl _ _⟩
    case round =>
      obtain ⟨i, hin, rfl, hG⟩ := hrel
      by_cases hlt : i < np
      · have hi' : (i : Int) < (np : Int) := by omega
        have hlni := hln i hin
        have hnli := (hR.train i hlt).nl
        go_wp2
        go_loopw [5, 7] (fun v jj wr2 => ∃ (j d : Nat), j = i + 1 + d ∧ j ≤ np ∧ jj = .int .i64 j ∧ Got W wr2 v (allM f P np i ++ manyM f P i d)) (fun _ jj _ => np - (intOf jj).toNat)
        case atStart => exact ⟨i + 1, 0, rfl, by omega, by go_num, by simpa [manyM] using hG⟩
        case round =>
          obtain ⟨j, d, hjd', hjn, rfl, hG2⟩ := hrel
          have hjd : Hid (j = i + 1 + d) := hjd'
          clear hjd'
          have c0 := cellLater hG2.below x0
          have c1 := cellLater hG2.below x1
          have c2 := cellLater hG2.below x2
          have c3 := cellLater hG2.below x3
          by_cases hjlt : j < np
          · have hj' : (j : Int) < (np : Int) := by omega
            have hmni := hmn i hlt d (by have := hjd.out; omega)
            have hpl := hpn i j hjlt ((f i).nl + 1)
            have hLL : (allM f P np i ++ manyM f P i d).length ≤ 4000 := by have := hjd.out; rw [List.length_append]; omega
            have hBw := Below.join hB (Nat.le_refl _) hG2.below
            have hMo := meetsOfI_any a len cap gap a' np cap' f c nc P i j wr hR hQ hlt hjlt (hT.grow hBw) (hP.grow hBw) (hC.later hBw)
            generalize hE2' : allM f P np i ++ manyM f P i d = L2 at hG2 hLL
            have hE2 : Hid _ := hE2'
            clear hE2'
            generalize hEp' : pairM f P i j ((f i).nl + 1) = MM at hMo hpl
            have hEp : Hid _ := hEp'
            clear hEp'
            have hsz := hG2.below.size
            go_wp2_with (first | (go_at_call 66; refine hMo.mono ?_; rintro _ w4 ⟨⟨v4, rfl, hO4⟩, hB4⟩; clear hMo; have hsz4 := hB4.size) | (at_builtin; refine wpList_append_rows _ rfl _ _ 58 rfl W.heap.size _ 108 i0 _ 5 40 Tryz.underlying58 hi hz0 hz1 hz2 rfl (by decide) _ _ _ rfl (ownsRow_later hG2.own hB4) _ _ _ rfl hO4 (meetCells_one _) (by unfold maxLen; omega) (by omega) (by omega) ?_))
            intro v' w6 hown' hgrow
            have hG6 := (hG2.later hB4).row hown' hgrow
            clear hown' hgrow hO4
            go_wp2
            go_roundw
            case rel => exact ⟨j + 1, d + 1, by have := hjd.out; omega, by omega, by go_num, by rw [← hE2.out, ← hEp.out, hjd.out] at hG6; simpa only [manyM, List.append_assoc] using hG6⟩
            case measure => simp [intOf]; omega
          · obtain rfl : j = np := by omega
            go_wp2
            go_roundw
            case rel => exact ⟨i + 1, by omega, by go_num, by rw [show d = j - (i + 1) by have := hjd.out; omega] at hG2; simpa only [allM] using hG2⟩
            case measure => simp [intOf]; omega
      · obtain rfl : i = np := by omega
        go_wp2
        go_ret
        exact ⟨⟨_, rfl, Joins.ownsRow_le hG.own hB.size⟩, Below.join hB (Nat.le_refl _) hG.below⟩
  · have hA : meetsOf len g gap len' f np P = [] := by unfold meetsOf; rw [if_neg (fun h => hz (by rw [h]))]
    rw [hA]
    clear hA
    generalize clashOf len g gap len' f np P = vq at hz hCh
    obtain ⟨v0, v1, v2, v3⟩ := vq
    dsimp only [clashV] at hz hCh
    have hz' : (v0 == 0) = false := by simpa using hz
    go_enter Tryz.func32, Tryz.ntmps32
    go_wp2_with (go_at_call 53; refine hCh.mono ?_; rintro _ w2 ⟨rfl, hB2⟩)
    go_ret
    exact ⟨⟨_, rfl, World.ownsRow_nil _ _ _ _⟩, Below.join hN (Nat.le_refl _) hB2⟩
end Go.Proofs.YtmmkggkneefhoabGreatDoor
