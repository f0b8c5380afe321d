/-
  The law of meetings: walked.
  The statement of the law of meetings: the row, and its card.
-/
import Derived.Test.YtelickcfodcmaaaGreatDoorGD
import Derived.Test.YtelickcfodcmaaaGreatDoorGK
import Derived.Test.YtelickcfodcmaaaGreatDoorGI
import Derived.Test.YtelickcfodcmaaaGreatDoorGJ
import Derived.Deep.RegionHeld3
import Derived.Test.YtelickcfodcmaaaGreatDoorGA
namespace Go.Proofs.YtelickcfodcmaaaGreatDoor
open Go.RowKit

theorem laterL_zero (t : TrL) : laterL 0 t = t := by cases t; simp [laterL]
theorem new1m (w : World) (x : Value) (t : TypeId) : (w.alloc (.cells #[x] t)).cell? ⟨w.heap.size, 0, none⟩ = some x := by simp
set_option maxRecDepth 20000 in
set_option maxHeartbeats 8000000 in
theorem lawMt_any (a : Option Addr) (len cap : Nat) (a2 : Option Addr) (len2 cap2 : Nat) (w : World) (hI : IsB w a len) (hI2 : IsB w a2 len2) (hg : w.cell? ⟨0, 0, none⟩ = some (.iface 234 (.agg #[.pointer (some ⟨1, 165, none⟩)]))) :
    Calls Tryz.prog 4 #[.slice a len cap, .slice a2 len2 cap2] w fun e w' => e = .returned (.bool true) ∧ Below w.heap.size w w' := by
  by_cases hlen : len ≤ 1048576
  · have hlen' : ¬ ((1048576 : Int) < (len : Int)) := by omega
    by_cases hlen2 : len2 ≤ 1048576
    · have hlen2' : ¬ ((1048576 : Int) < (len2 : Int)) := by omega
      have hD := lines_any w a len cap 9 hlen hI (by decide) (by decide)
      go_enter Tryz.func4, Tryz.ntmps4
      go_wp2_with (go_at_call 5; fail)
      refine hD.mono ?_
      rintro _ w1 ⟨l, hDr, L, at_, ct, aT, cT, hlL, rfl, hown, hB1⟩
      have hF := hDr.right
      have hL5 := hDr.trs
      have hLl : L.length = l.trains.length := by rw [hlL, List.length_map]
      obtain ⟨x1, x2, ex, hIn⟩ := ownInts hown.ints
      cases ex
      obtain ⟨x3, x4, ex, hT1⟩ := hown.trs.trains (fun x hx => by
        have h1 := hDr.legs
        rw [hlL, List.map_map] at h1
        have := Nat.le_trans (le_sum (List.mem_map.2 ⟨x, hx, rfl⟩)) h1
        have h2 : x.1.legs.length ≤ 10 := this
        unfold maxLen; omega)
      cases ex
      rw [← hlL, hLl] at hT1
      rw [hLl]
      replace hIn : IsInts 0 w1.heap.size w1 at_ l.tracks.length (gI l.tracks) := hIn.mono (Nat.zero_le _) (Nat.le_refl _)
      replace hT1 : IsTrains 0 w1.heap.size w1 aT l.trains.length (fT l.trains) := hT1.mono (Nat.zero_le _) (Nat.le_refl _)
      have hsome := hDr.some
      clear hD hown hlL hLl hDr hI
      generalize l.tracks = tr at hIn hF ⊢
      generalize l.trains = T at hT1 hF hL5 hsome ⊢
      generalize l.gap = gap at hF ⊢
      clear l
      have hR := rightL_of hF
      have hn10 : legSum (fT T) T.length ≤ 10 := (rightG_of hF).legs
      have hst0 := (rightG_of hF).st0
      have h10 : ∀ j, j < T.length → (fT T j).nl ≤ 10 := fun j hj => (hR.train j hj).nl
      have hml : ∀ j, j < T.length → (fT T j).nl ≤ 1048576 := fun j hj => by have := h10 j hj; omega
      have hnt : tr.length ≤ 1048576 := by have := hR.st; omega
      have hnt1 : tr.length ≤ 100 := by have := hR.st; omega
      have hnp' : T.length ≤ 1048576 := by omega
      have hok : ∀ t ∈ T, 0 < t.legs.length ∧ t.legs.length ≤ 10 ∧ 0 ≤ t.ready ∧ t.ready ≤ 100000 ∧ 0 ≤ t.due ∧ t.due ≤ 100000 := fun t ht => by
        obtain ⟨j, hj, hjt⟩ := List.getElem_of_mem ht
        have e : fT T j = trD t := by unfold fT; rw [List.getD_eq_getElem?_getD, List.getElem?_eq_getElem hj, hjt]; rfl
        have h1 := hR.train j hj
        have h2 := hR.pos j hj
        rw [e] at h1 h2
        exact ⟨h2, h1.nl, h1.r0, h1.r1, h1.d0, h1.d1⟩
      have hF1 := fault_first hF hsome
      obtain ⟨ba, oa, rfl, _, _, _⟩ := hIn 0 (by omega)
      have hg1 := cellLater hB1 hg
      clear hF hR
      have hA := b1 w1 (.cells #[.slice (some ⟨ba, oa, none⟩) tr.length ct, .int .i64 gap, .slice aT T.length cT] 26)
      obtain ⟨n0, n1, n2⟩ := new3 w1 (.slice (some ⟨ba, oa, none⟩) tr.length ct) (.int .i64 gap) (.slice aT T.length cT) 26
      have hAp := aplan_any (some ⟨ba, oa, none⟩) tr.length ct (gI tr) gap aT T.length cT (fT T) a2 len2 cap2 _ hlen2 ((hI2.later hB1).later hA) hnt hL5 h10 hn10 (hIn.grow hA) (hT1.grow hA)
      go_wp2_with (go_at_call 6; fail)
      refine hAp.mono ?_
      rintro _ w2 ⟨c, n, nc, P, rfl, hn5, hP10, hO2, hB2⟩
      clear hAp
      have hrows2 := (hO2.rows hP10).mono (Nat.zero_le _) (Nat.le_refl _)
      have hcaps2 := hO2.capsL
      clear hO2
      have hA2 := b1 w2 (.cells #[.slice c n nc] 30)
      have p0 := new1m w2 (.slice c n nc) 30
      have hC2 := Below.join (Below.join hA (Nat.le_refl _) hB2) (Nat.le_refl _) hA2
      replace n0 := cellLater hA2 (cellLater hB2 n0)
      replace n1 := cellLater hA2 (cellLater hB2 n1)
      replace n2 := cellLater hA2 (cellLater hB2 n2)
      have hmp : ∀ j, j < n → (P j).n ≤ 1048576 := fun j hj => by have := hP10 j hj; omega
      have hn' : n ≤ 1048576 := by omega
      obtain ⟨V2, hV2⟩ : ∃ V2, V2 = w2.alloc (.cells #[.slice c n nc] 30) := ⟨_, rfl⟩
      have hIn2 := hIn.grow hC2
      have hT2 := hT1.grow hC2
      replace hrows2 := hrows2.grow hA2
      replace hcaps2 := hcaps2.later hA2
      have hg2 := cellLater hC2 hg1
      rw [← hV2] at hIn2 hT2 hrows2 hcaps2 hg2 hC2
      obtain ⟨M, hM⟩ : ∃ M, M = meetsOf tr.length (gI tr) gap T.length (fT T) n P := ⟨_, rfl⟩
      have hMl : M.length ≤ 3025 := by rw [hM]; exact meetsOf_len _ _ _ _ _ _ _
      have hMg : ∀ x ∈ M, GoodM x := by rw [hM]; exact meets_good
      have hMi : Calls Tryz.prog 12 #[.agg #[.slice (some ⟨ba, oa, none⟩) tr.length ct, .int .i64 gap, .slice aT T.length cT], .agg #[.slice c n nc]] V2 fun e w' => ∃ v, e = .returned v ∧ IsMeets w' v M ∧ Below V2.heap.size V2 w' := by
        rw [hM]
        exact (implMeets_any (some ⟨ba, oa, none⟩) tr.length ct (gI tr) gap aT T.length cT (fT T) c n nc P V2 hnt hnp' hml hn' hmp hIn2 hT2 hrows2 hcaps2 hg2).mono (fun e w' ⟨⟨v, he, ho⟩, hB⟩ => ⟨v, he, isMeets_of ho, hB⟩)
      have hMs : ∀ V : World, Below V2.heap.size V2 V → Calls Tryz.prog 13 #[.agg #[.slice (some ⟨ba, oa, none⟩) tr.length ct, .int .i64 gap, .slice aT T.length cT], .agg #[.slice c n nc]] V fun e w' => ∃ v, e = .returned v ∧ IsMeets w' v M ∧ Below V.heap.size V w' := fun V hV => by
        rw [hM]
        exact (specMeets_any (some ⟨ba, oa, none⟩) tr.length ct (gI tr) gap aT T.length cT (fT T) c n nc P V hnt hnp' hml hn' hmp (hIn2.grow hV) (hT2.grow hV) (hrows2.grow hV)).mono (fun e w' ⟨⟨v, he, ho⟩, hB⟩ => ⟨v, he, isMeets_of ho, hB⟩)
      have hMg' : Hid _ := hMg
      have hM' : Hid _ := hM
      clear hM hMg
      go_wp2_with (go_at_call 12; fail)
      rw [← hV2] at n0 n1 n2 p0 ⊢
      refine hMi.mono ?_
      rintro _ w3 ⟨v3, rfl, hI3, hB3⟩
      have hMs3 := hMs w3 hB3
      have hV2' : Hid _ := hV2
      clear hMi hMs hV2
      replace n0 := cellLater hB3 n0
      replace n1 := cellLater hB3 n1
      replace n2 := cellLater hB3 n2
      replace p0 := cellLater hB3 p0
      go_wp2_with (go_at_call 13; fail)
      refine hMs3.mono ?_
      rintro _ W ⟨v4, rfl, hI4, hB4⟩
      clear hMs3
      replace n0 := cellLater hB4 n0
      replace n1 := cellLater hB4 n1
      replace n2 := cellLater hB4 n2
      replace hI3 := hI3.later hB4
      have hC4 := Below.join hC2 (Nat.le_refl _) (Below.join hB3 (Nat.le_refl _) hB4)
      obtain ⟨ma, mc, rfl, hJ3⟩ := hI3
      obtain ⟨ka, kc, rfl, hJ4⟩ := hI4
      have hJ3' : Hid _ := hJ3
      have hJ4' : Hid _ := hJ4
      obtain ⟨m, hm⟩ : ∃ m, m = M.length := ⟨_, rfl⟩
      have hm' : Hid _ := hm
      rw [← hm] at hMl ⊢
      clear hJ3 hJ4 hm p0 hrows2 hcaps2 hB3 hB4 hmp hP10
      go_wp2
      go_loopw [38] (fun c38 wr => ∃ i : Nat, i ≤ m ∧ c38 = .int .i64 i ∧ Below W.heap.size W wr) (fun c38 _ => m - (intOf c38).toNat)
      case atStart => exact ⟨0, Nat.zero_le _, rfl, Below.refl _ _⟩
      case round =>
        obtain ⟨i, hi, rfl, hB⟩ := hrel
        by_cases hlt : i < m
        · have hlt' : (i : Int) < (m : Int) := by omega
          have hi0 : (0 : Int) ≤ (i : Int) := by omega
          obtain ⟨x, b3, o3, hx, rfl, ca0, ca1, ca2, ca3, ca4⟩ := hJ3'.out i (by rw [← hm'.out]; exact hlt)
          obtain ⟨x', b4, o4, hx', rfl, cb0, cb1, cb2, cb3, cb4⟩ := hJ4'.out i (by rw [← hm'.out]; exact hlt)
          rw [hx] at hx'
          cases hx'
          obtain ⟨gm1, gm2⟩ := hMg'.out x (List.mem_of_getElem? hx)
          have hx1 : ¬ (x.b ≤ x.a) := by omega
          have hx2 : ¬ (x.to < x.frm) := by omega
          replace ca0 := cellLater hB ca0
          replace ca1 := cellLater hB ca1
          replace ca2 := cellLater hB ca2
          replace ca3 := cellLater hB ca3
          replace ca4 := cellLater hB ca4
          replace cb0 := cellLater hB cb0
          replace cb1 := cellLater hB cb1
          replace cb2 := cellLater hB cb2
          replace cb3 := cellLater hB cb3
          replace cb4 := cellLater hB cb4
          clear hx
          go_wp2
          go_quiet (fail)
          go_wp2
          go_roundw
          case rel => exact ⟨i + 1, by omega, rfl, Below.join hB (Nat.le_refl _) (below_drewN (Below.refl _ _) _)⟩
          case measure => simp only [intOf]; omega
        · obtain rfl : i = m := by omega
          replace n0 := cellLater hB n0
          replace n1 := cellLater hB n1
          replace n2 := cellLater hB n2
          have hC5 := Below.join hC4 (Nat.le_refl _) hB
          clear hC4 hB hIn2 hT2 hg2 hJ3' hJ4' hMg' hM'
          go_wp2_with (go_at_call 14; fail)
          refine (wLater_any ba oa ct 0 tr gap aT T cT wr (by omega) hnt1 hL5 (by decide) (by decide) hok (hIn.grow hC5) (hT1.grow hC5)).mono ?_
          rintro _ w6 ⟨L, vt, vT, hLm, rfl, hOw, hB6⟩
          have hL0 : L.map Prod.fst = T := by rw [hLm, show laterL 0 = id from funext laterL_zero, List.map_id]
          have hLl : L.length = T.length := by rw [← hL0, List.length_map]
          clear hLm
          obtain ⟨xt, ct6, ex, hIn6⟩ := ownInts hOw.ints
          subst ex
          obtain ⟨gT, cT6, ex⟩ := Joins.ownsRow_form hOw.trs.row (by omega)
          subst ex
          have hcap := row_cap' hOw.trs.row
          obtain ⟨x3, x4, ex, hT6⟩ := hOw.trs.trains (fun x hx => by
            have h1 := (hok x.1 (by rw [← hL0]; exact List.mem_map.2 ⟨x, hx, rfl⟩)).2.1
            unfold maxLen; omega)
          cases ex
          rw [hL0] at hT6
          have hT61 : IsTrains 0 w6.heap.size w6 (some ⟨gT, 0, none⟩) 1 (fT T) := fun j hj => (hT6.mono (Nat.zero_le _) (Nat.le_refl _)) j (by omega)
          replace hIn6 : IsInts 0 w6.heap.size w6 xt tr.length (gI tr) := hIn6.mono (Nat.zero_le _) (Nat.le_refl _)
          have hC6 := Below.join hC5 (Nat.le_refl _) hB6
          have hg6 := cellLater hC6 hg1
          have hBw6 := Below.join hB1 (Nat.le_refl _) hC6
          have hc1 : (1 : Int) ≤ (cT6 : Int) := by omega
          have hlen1 : (1 : Int) ≤ (L.length : Int) := by omega
          have hcL : (L.length : Int) ≤ (cT6 : Int) := by omega
          clear hT6 hOw hL0 hIn hT1 hC5 hB6 hC6 hok n0 n1 n2
          have hA6 := b1 w6 (.cells #[.slice xt tr.length ct6, .int .i64 gap, .slice (some ⟨gT, 0, none⟩) 1 cT6] 26)
          obtain ⟨d0, d1, d2⟩ := new3 w6 (.slice xt tr.length ct6) (.int .i64 gap) (.slice (some ⟨gT, 0, none⟩) 1 cT6) 26
          have hml1 : ∀ j, j < 1 → (fT T j).nl ≤ 1048576 := fun j hj => hml j (by omega)
          have h101 : ∀ j, j < 1 → (lonP (fT T) j).n ≤ 10 := fun j hj => h10 j (by omega)
          have hz1 := lon_clash hF1
          have hSo := implSolve_lon xt tr.length ct6 (gI tr) gap (some ⟨gT, 0, none⟩) 1 cT6 (fT T) _ hnt (by decide) hml1 (hIn6.grow hA6) (hT61.grow hA6) (cellLater hA6 hg6) hz1
          have hF1' : Hid _ := hF1
          have hz1' : Hid _ := hz1
          clear hz1 hF1
          go_wp2_with (go_at_call 15; fail)
          refine hSo.mono ?_
          rintro _ w7 ⟨⟨c7, nc7, rfl, hO7⟩, hB7⟩
          clear hSo
          have hrows7 := (hO7.rows h101).mono (Nat.zero_le _) (Nat.le_refl _)
          have hcaps7 := hO7.capsL
          have hA7 := b1 w7 (.cells #[.bool true, .int .i64 (costSum (fT T) 1), .slice c7 1 nc7] 47)
          obtain ⟨t0, t1, t2⟩ := new3 w7 (.bool true) (.int .i64 (costSum (fT T) 1)) (.slice c7 1 nc7) 47
          have hC7 := Below.join (Below.join hA6 (Nat.le_refl _) hB7) (Nat.le_refl _) hA7
          have hBw7 := Below.join hBw6 (Nat.le_refl _) hC7
          replace d0 := cellLater hA7 (cellLater hB7 d0)
          replace d1 := cellLater hA7 (cellLater hB7 d1)
          replace d2 := cellLater hA7 (cellLater hB7 d2)
          replace hrows7 := hrows7.grow hA7
          replace hcaps7 := hcaps7.later hA7
          have hIn7 := hIn6.grow hC7
          have hT7 := hT61.grow hC7
          have hg7 := cellLater hC7 hg6
          obtain ⟨V7, hV7⟩ : ∃ V7, V7 = w7.alloc (.cells #[.bool true, .int .i64 (costSum (fT T) 1), .slice c7 1 nc7] 47) := ⟨_, rfl⟩
          rw [← hV7] at t0 t1 t2 d0 d1 d2 hrows7 hcaps7 hIn7 hT7 hg7 hBw7
          have hLe : ∀ V : World, Below V7.heap.size V7 V → Calls Tryz.prog 16 #[.agg #[.slice xt tr.length ct6, .int .i64 gap, .slice (some ⟨gT, 0, none⟩) 1 cT6]] V fun e w' => e = .returned (.int .i64 (costSum (fT T) 1)) ∧ Below V.heap.size V w' := fun V hV => by
            have h := implLeast_any xt tr.length ct6 (gI tr) gap (some ⟨gT, 0, none⟩) 1 cT6 (fT T) V hnt (by decide) hml1 (hIn7.grow hV) (hT7.grow hV) (cellLater hV hg7)
            unfold leastOf at h
            rw [hF1'.out, if_pos rfl] at h
            exact h
          have hAr : ∀ V : World, Below V7.heap.size V7 V → Calls Tryz.prog 17 #[.agg #[.slice xt tr.length ct6, .int .i64 gap, .slice (some ⟨gT, 0, none⟩) 1 cT6], .agg #[.slice c7 1 nc7], .int .i64 0] V fun e w' => e = .returned (.int .i64 (endOf (fT T 0))) ∧ Below V.heap.size V w' := fun V hV => by
            have h := implArrives_any xt tr.length ct6 (gI tr) gap (some ⟨gT, 0, none⟩) 1 cT6 (fT T) c7 1 nc7 (lonP (fT T)) 0 V hnt (by decide) hml1 (by decide) (fun j hj => by have := h101 j hj; omega) (hIn7.grow hV) (hT7.grow hV) (hrows7.grow hV) (cellLater hV hg7)
            rw [lon_arrives hF1'.out] at h
            exact h
          have hAl : ∀ V : World, Below V7.heap.size V7 V → Calls Tryz.prog 18 #[.agg #[.slice xt tr.length ct6, .int .i64 gap, .slice (some ⟨gT, 0, none⟩) 1 cT6], .int .i64 0] V fun e w' => e = .returned (.int .i64 (endOf (fT T 0))) ∧ Below V.heap.size V w' := fun V hV => by
            have h := implAlone_any xt tr.length ct6 (gI tr) gap (some ⟨gT, 0, none⟩) 1 cT6 (fT T) 0 V hnt (by decide) hml1 (hIn7.grow hV) (hT7.grow hV) (cellLater hV hg7)
            unfold aloneOf at h
            rw [hF1'.out, if_pos ⟨rfl, rfl⟩] at h
            exact h
          have hMe : ∀ V : World, Below V7.heap.size V7 V → Calls Tryz.prog 12 #[.agg #[.slice xt tr.length ct6, .int .i64 gap, .slice (some ⟨gT, 0, none⟩) 1 cT6], .agg #[.slice c7 1 nc7]] V fun e w' => ∃ xa xc, e = .returned (.slice xa 0 xc) ∧ Below V.heap.size V w' := fun V hV => by
            have h := implMeets_any xt tr.length ct6 (gI tr) gap (some ⟨gT, 0, none⟩) 1 cT6 (fT T) c7 1 nc7 (lonP (fT T)) V hnt (by decide) hml1 (by decide) (fun j hj => by have := h101 j hj; omega) (hIn7.grow hV) (hT7.grow hV) (hrows7.grow hV) (hcaps7.later hV) (cellLater hV hg7)
            rw [lon_meets hF1'.out] at h
            refine h.mono ?_
            rintro e w' ⟨⟨v, he, ho⟩, hB⟩
            obtain ⟨xa, xc, rfl, _⟩ := isMeets_of ho
            exact ⟨xa, xc, he, hB⟩
          clear hF1' hz1' hO7 hrows7 hcaps7 hIn7 hT7 hg7 hIn6 hT61 hg6 hC7 hB7 hA6 hA7 h101 hml1 hml h10
          go_wp2
          rw [← hV7]
          clear hV7
          have hDw : Below V7.heap.size V7 V7.drew := (Below.refl _ _).drew
          go_region_held3 (fun w' => w'.cell? ⟨w6.heap.size, 0, none⟩ = some (.slice xt tr.length ct6) ∧ w'.cell? ⟨w6.heap.size, 1, none⟩ = some (.int .i64 gap) ∧ w'.cell? ⟨w6.heap.size, 2, none⟩ = some (.slice (some ⟨gT, 0, none⟩) 1 cT6) ∧ w'.cell? ⟨w7.heap.size, 0, none⟩ = some (.bool true) ∧ w'.cell? ⟨w7.heap.size, 1, none⟩ = some (.int .i64 (costSum (fT T) 1)) ∧ w'.cell? ⟨w7.heap.size, 2, none⟩ = some (.slice c7 1 nc7))
            (first | exact ⟨d0, d1, d2, t0, t1, t2⟩ | exact ⟨cellLater hD4 d0, cellLater hD4 d1, cellLater hD4 d2, cellLater hD4 t0, cellLater hD4 t1, cellLater hD4 t2⟩ | exact ⟨cellLater hD3 d0, cellLater hD3 d1, cellLater hD3 d2, cellLater hD3 t0, cellLater hD3 t1, cellLater hD3 t2⟩ | exact ⟨cellLater hD2 d0, cellLater hD2 d1, cellLater hD2 d2, cellLater hD2 t0, cellLater hD2 t1, cellLater hD2 t2⟩ | exact ⟨cellLater hD1 d0, cellLater hD1 d1, cellLater hD1 d2, cellLater hD1 t0, cellLater hD1 t1, cellLater hD1 t2⟩)
            (first | (go_at_call 16; with_reducible refine (hLe _ hDw).mono ?_; rintro _ y1 ⟨rfl, hY1⟩; have hD1 := Below.join hDw (Nat.le_refl _) hY1) | (go_at_call 17; with_reducible refine (hAr _ hD1).mono ?_; rintro _ y2 ⟨rfl, hY2⟩; have hD2 := Below.join hD1 (Nat.le_refl _) hY2) | (go_at_call 18; with_reducible refine (hAl _ hD2).mono ?_; rintro _ y3 ⟨rfl, hY3⟩; have hD3 := Below.join hD2 (Nat.le_refl _) hY3) | (go_at_call 12; with_reducible refine (hMe _ hD3).mono ?_; rintro _ y4 ⟨xa, xc, rfl, hY4⟩; have hD4 := Below.join hD3 (Nat.le_refl _) hY4))
          go_wp2
          go_ret
          exact ⟨rfl, Below.join hBw7 (Nat.le_refl _) hD4⟩
    · have hlen2' : (1048576 : Int) < (len2 : Int) := by omega
      go_enter Tryz.func4, Tryz.ntmps4
      go_wp2
      go_ret
      exact ⟨rfl, Below.refl _ _⟩
  · have hlen' : (1048576 : Int) < (len : Int) := by omega
    go_enter Tryz.func4, Tryz.ntmps4
    go_wp2
    go_ret
    exact ⟨rfl, Below.refl _ _⟩
end Go.Proofs.YtelickcfodcmaaaGreatDoor

namespace Go.Proofs.YtelickcfodcmaaaGreatDoor
open Go.ChangeShapes Go.WideShapes Go.ChangeAt Go.RowKit

set_option maxRecDepth 100000 in
theorem lawMt_contract (H : Type) (enc : TypeId × Value → H) (W : World) (base : Nat) (args : Array Value) (ds gs : List (DataW H)) (before : List MemPlace)
    (hval : ∀ (j : Nat) t v, Tryz.f4.params[j]? = some t → args[j]? = some v → Value.okWide Tryz.prog W .any base t v)
    (hW : DataW.Whole enc Tryz.prog Tryz.f4.params.toList Rows.fnMeetsSpec.vars false W args.toList ds gs before) (hL : laidMetH Tryz.prog [("errors.errorType", Rows.laid_errors_errorType)] W) :
    Calls Tryz.prog 4 args W fun e W' => ∃ v, e = .returned v ∧ Rows.fnMeetsSpec.post enc Tryz.prog Tryz.f4 false true false false W args v W' := by
  have hW' := hW
  obtain ⟨p, q, hA0, hV, rfl, hfz, hnd⟩ := hW
  have hA : DataW.TrodAll enc Tryz.prog W 0 (fun _ => true) true Tryz.f4.params.toList args.toList ds p := hA0
  rw [Tryz.params4] at hA hval
  obtain ⟨v0, vs0, d0, ds0, p0, q0, hargs, rfl, rfl, h0, r0⟩ := trodAll_cons hA
  obtain ⟨v1, vs1, d1, ds1, p1, q1, rfl, rfl, rfl, h1, r1⟩ := trodAll_cons r0
  obtain ⟨rfl, rfl, rfl⟩ := trodAll_nil r1
  obtain rfl : args = #[v0, v1] := Array.ext' hargs
  obtain ⟨rfl, rfl⟩ := trodVars_none hV
  have hg := handle_of_laid hL
  have hk := h0
  have hk1 := h1
  obtain ⟨a, len, cap, rfl⟩ := okWide_slice Tryz.underlying22 (hval 0 22 v0 rfl rfl)
  obtain ⟨fl, hfl⟩ := h0
  obtain ⟨x1, x2, x3, ex, hI⟩ := readBytes (v := .slice a len cap) (by simpa [Value.cells] using hfl)
  cases ex
  obtain ⟨a2, len2, cap2, rfl⟩ := okWide_slice Tryz.underlying22 (hval 1 22 v1 rfl rfl)
  obtain ⟨fl2, hfl2⟩ := h1
  obtain ⟨x1, x2, x3, ex, hI2⟩ := readBytes (v := .slice a2 len2 cap2) (by simpa [Value.cells] using hfl2)
  cases ex
  simp only [List.append_nil] at hW'
  refine (lawMt_any a len cap a2 len2 cap2 W hI hI2 hg).mono fun e W' ⟨he, hb⟩ => ?_
  subst he
  have hlt : ∀ x ∈ p0, x.block < W.heap.size := fun x hx => hW'.lt x (by simp [hx])
  have hlt1 : ∀ x ∈ p1, x.block < W.heap.size := fun x hx => hW'.lt x (by simp [hx])
  have e1 : ∀ d d' : DataW H, Rows.fnMeetsSpec.fn H ([d, d'] ++ []) = { results := [.lit (.bool true)], args := [d, d'] } := fun _ _ => rfl
  refine ⟨_, rfl, _, _, _, [], p0 ++ (p1 ++ []), [], hW', ?_, ?_, ?_, hb.frame _, fun h => by cases h⟩
  · rw [e1]; exact trodAll_cons_mk (shut_bool Tryz.underlying4 true) trodAll_mk0
  · rw [e1]; exact trodAll_cons_mk (Below.trod Tryz.laidOut (by kernel_rfl) (of_decide_eq_true (by kernel_rfl)) hk hb hlt) (trodAll_cons_mk (Below.trod Tryz.laidOut (by kernel_rfl) (of_decide_eq_true (by kernel_rfl)) hk1 hb hlt1) trodAll_mk0)
  · rw [e1]; rfl

theorem laidWorld_readsMt (os : Os) {H : Type} (enc : TypeId × Value → H) : ∃ places, DataW.whole enc Tryz.prog ((laidWorld os).forCall (fun _ _ => 0) ⟨#[], #[.slice none 0 0, .slice none 0 0], []⟩).memory Tryz.f4.params.toList Rows.fnMeetsSpec.vars false #[Value.slice none 0 0, .slice none 0 0].toList 8 = some ([.nil, .nil], [], places) :=
  ⟨[], by kernel_rfl⟩

set_option maxRecDepth 100000 in
theorem lawMt_lifted (os : Os) (started : os.Started) (H : Type) (enc : TypeId × Value → H) (F : Stop.Interp) :
    ReturnsInHanded {} Tryz.checked os 4 .any ((OpenSpec.ofChange Rows.fnMeetsSpec).preRow enc Tryz.prog Tryz.f4 Rows.fnMeetsRow.domain false Rows.fnMeetsRow.laid) (((OpenSpec.ofChange Rows.fnMeetsSpec).at F).post enc Tryz.prog Tryz.f4 false true false false) := by
  obtain ⟨places, hx⟩ := laidWorld_readsMt os enc
  refine returnsInHanded_of_row (C := Tryz.checked) (s := OpenSpec.ofChange Rows.fnMeetsSpec) Tryz.own started (by kernel_rfl) Tryz.func4
    (witness_row_at (enc := enc) (C := Tryz.checked) false (laidWorld os) #[.slice none 0 0, .slice none 0 0] rfl (by kernel_rfl) (by kernel_rfl) (by kernel_rfl)
      (OpenSpec.preRow_of_cond 8 hx (by kernel_rfl) (fun k hk => by cases hk) (by kernel_rfl) (laidWorld_met os _))) ?_
  intro W base args ds gs before hval hW _ _ _ hL _ _
  exact lawMt_contract H enc W base args ds gs before hval hW hL

theorem lawMt_said : Rows.FnMeetsSaid :=
  OpenClaim.holds_of_cond 4 Tryz.f4 rfl rfl rfl rfl rfl rfl rfl ⟨rfl, rfl, rfl, rfl, rfl⟩ rfl rfl rfl rfl rfl (by kernel_rfl) Tryz.func4 (by kernel_rfl)
    (of_decide_eq_true (by kernel_rfl)) (by unfold Func.isWrapper; rw [if_neg (of_decide_eq_false (by kernel_rfl))]; exact ⟨rfl, rfl⟩)
    (fun os started H enc _ F => by rw [OpenClaim.pre_eq_preRow]; exact lawMt_lifted os started H enc F)

theorem lawMt_plain (f : FuncId) (fn : Func) (hf : Tryz.pinned.checked.prog.funcNamed "loop.example/stringline/laws.FnMeets" = some f) (hfn : Tryz.pinned.checked.prog.funcs[f]? = some fn) :
    true = Tryz.pinned.checked.prog.looks [] ∧ ∀ (j : Nat) t, fn.params[j]? = some t → Tryz.pinned.checked.prog.wantsStandIn t = false := by
  obtain rfl : f = 4 := Option.some.inj ((show Tryz.prog.funcNamed "loop.example/stringline/laws.FnMeets" = some 4 by kernel_rfl).symm.trans hf) |>.symm
  obtain rfl : fn = Tryz.f4 := (Option.some.inj (Tryz.func4.symm.trans hfn)).symm
  refine ⟨by kernel_rfl, fun j t ht => ?_⟩
  rw [Tryz.params4] at ht
  obtain rfl : t = 22 := by simpa using Array.mem_of_getElem? ht
  exact (show Tryz.prog.wantsStandIn 22 = false by kernel_rfl)

theorem lawMt_card : Rows.FnMeetsCardSaid :=
  ⟨Claim7.tied_new_at .later [.handle] true (Claim7.new_of_sixth lawMt_said _ true rfl ⟨rfl, rfl⟩ (by kernel_rfl) rfl lawMt_plain) (by kernel_rfl), (fun _ h => by cases h), fnMeets_row_tie, (fun h => by cases h), by kernel_rfl⟩
end Go.Proofs.YtelickcfodcmaaaGreatDoor
