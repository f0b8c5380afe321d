/-
  The program's looks at what is taken, by the lists of holds.
-/
import Derived.Test.YthnlkpifafklkaaGreatDoorImplY
namespace Go.Proofs.YthnlkpifafklkaaGreatDoor
open Go.RowKit

theorem find_first {p : HoldD → Bool} : ∀ {L : List HoldD} {r : Nat} {h : HoldD}, L[r]? = some h → p h = true → (∀ j x, j < r → L[j]? = some x → p x = false) → L.find? p = some h
  | [], r, h, e, _, _ => by simp at e
  | y :: L, 0, h, e, hp, _ => by
    have : y = h := by simpa using e
    subst this
    simp [hp]
  | y :: L, r + 1, h, e, hp, hall => by
    have hy := hall 0 y (by omega) (by simp)
    rw [List.find?_cons, hy]
    exact find_first (r := r) (by simpa using e) hp (fun j x hj hx => hall (j + 1) x (by omega) (by simpa using hx))
theorem find_no {p : HoldD → Bool} {L : List HoldD} (hall : ∀ j x, j < L.length → L[j]? = some x → p x = false) : L.find? p = none := by
  rw [List.find?_eq_none]
  intro x hx
  obtain ⟨j, hj, e⟩ := List.mem_iff_getElem.1 hx
  have := hall j x hj (by rw [List.getElem?_eq_getElem hj, e])
  simp [this]
theorem count_take {p : HoldD → Bool} {L : List HoldD} {r : Nat} {h : HoldD} (e : L[r]? = some h) : (L.take (r + 1)).countP p = (L.take r).countP p + if p h = true then 1 else 0 := by
  rw [List.take_add_one, e, List.countP_append]
  simp [List.countP_cons]

set_option maxRecDepth 20000 in
set_option maxHeartbeats 8000000 in
theorem trackTaken_any (a : Option Addr) (len cap : Nat) (g : Nat → Int) (gap : Int) (a' : Option Addr) (np cap' : Nat) (f : Nat → TrainD) (c : Option Addr) (nc b0 bT bS n : Nat) (mT mS : Int → Value) (LS : Int → List HoldD) (P : Nat → RowD) (i k : Nat) (w : World)
    (hR : RightL len np f) (hG : RightG len g gap np f) (hQ : RightP np f np P) (hi : i < np) (hk : k < (f i).nl) (hT : IsTrains 0 w.heap.size w a' np f) (hP : IsRows 0 w.heap.size w c np P) (hGr : Gr w b0 bT bS n mT mS (listT gap np f P) LS) :
    Calls Tryz.prog 89 #[.agg #[.slice a' np cap', .slice c np nc, .slice a len cap, .map (some bT), .map (some bS)], .int .i64 i, .int .i64 k] w fun e w' => e = .returned (clashV (takenC gap np f P i k)) ∧ Below w.heap.size w w' := by
  have hX := LookBox.new w a len cap a' np cap' c nc bT bS 136 86
  have hN := b2 w (.cells #[.slice a' np cap', .slice c np nc, .slice a len cap, .map (some bT), .map (some bS)] 136) (.cells #[.int .i64 0, .int .i64 0, .int .i64 0, .int .i64 0] 86)
  have htr := hR.tr
  have hRi := hR.train i hi
  have hnl := hRi.nl
  obtain ⟨x0, x1⟩ := trackOf_bd hR hG hi hk
  have hi' : (i : Int) < (np : Int) := by omega
  have hi0 : (0 : Int) ≤ (i : Int) := by omega
  have hk' : (k : Int) < ((f i).nl : Int) := by omega
  have hk0 : (0 : Int) ≤ (k : Int) := by omega
  obtain ⟨b, off, la, lc, rfl, _, hb, t0, t1, t2, t3, t4, hlg, _⟩ := hT i hi
  obtain ⟨bp, op, lp, lpc, rfl, _, hbp, p0, hin, _⟩ := hP i hi
  rw [hQ.row i hi] at p0 hin
  obtain ⟨bi, oi, rfl, _, hbi, q0⟩ := hin k hk
  replace t0 := cellLater hN t0
  replace t1 := cellLater hN t1
  replace t2 := cellLater hN t2
  replace t3 := cellLater hN t3
  replace t4 := cellLater hN t4
  replace p0 := cellLater hN p0
  replace q0 := cellLater hN q0
  replace hlg := hlg.grow hN.drew
  replace hGr := hGr.later hN
  have hll : (listT gap np f P (trackOf (f i) k)).length ≤ 10 := Nat.le_trans (allH_len f np) hG.legs
  have hE : takenC gap np f P i k = (match (listT gap np f P (trackOf (f i) k)).find? (hitB i ((P i).s k)) with | some h => (3, (i : Int), (k : Int), (h.tr : Int)) | none => (0, 0, 0, 0)) := rfl
  generalize takenC gap np f P i k = vv at hE ⊢
  go_enter Tryz.func89, Tryz.ntmps89
  go_wp2
  refine nameW fun W hW => ?_
  rw [← hW] at hX hN t0 t1 t2 t3 t4 p0 q0 hlg hGr
  clear hW
  obtain ⟨ha, hc, hv, hcs⟩ := isHolds_of (hGr.oT (trackOf (f i) k))
  have hlk : ∀ V : World, Below W.heap.size W V → (Instr.lookup 134 (.map (some bT)) (.int .i64 (trackOf (f i) k)) false).run Tryz.prog V = .ok (.slice ha (listT gap np f P (trackOf (f i) k)).length hc) V := fun V hV => by
    have := (hGr.kT.later hV).lookup Tryz.underlying3 Tryz.underlying134 (Tryz.zeroHolds _) (wf_small x0 x1)
    rw [hv] at this
    exact this
  generalize listT gap np f P (trackOf (f i) k) = L at hE hcs hlk hll
  clear hv
  have hS0 := And.intro (b := W.drew.cell? ⟨w.heap.size, 3, none⟩ = some (.map (some bT)) ∧ W.drew.cell? ⟨b, off + i * 5, none⟩ = some (.int .i64 (f i).frm) ∧ W.drew.cell? ⟨b, off + i * 5 + 1, none⟩ = some (.int .i64 (f i).ready) ∧ W.drew.cell? ⟨b, off + i * 5 + 2, none⟩ = some (.int .i64 (f i).due) ∧ W.drew.cell? ⟨b, off + i * 5 + 3, none⟩ = some (.int .i64 (f i).weight) ∧ W.drew.cell? ⟨b, off + i * 5 + 4, none⟩ = some (.slice la (f i).nl lc) ∧ (Instr.lookup 134 (.map (some bT)) (.int .i64 (trackOf (f i) k)) false).run Tryz.prog W.drew = .ok (.slice ha L.length hc) W.drew) (show W.drew.cell? ⟨w.heap.size, 0, none⟩ = some (.slice (some ⟨b, off, none⟩) np cap') from hX.h0) ⟨hX.h3, t0, t1, t2, t3, t4, hlk _ (Below.refl _ _).drew⟩
  go_region_held3 (fun w' => w'.cell? ⟨w.heap.size, 0, none⟩ = some (.slice (some ⟨b, off, none⟩) np cap') ∧ w'.cell? ⟨w.heap.size, 3, none⟩ = some (.map (some bT)) ∧ w'.cell? ⟨b, off + i * 5, none⟩ = some (.int .i64 (f i).frm) ∧ w'.cell? ⟨b, off + i * 5 + 1, none⟩ = some (.int .i64 (f i).ready) ∧ w'.cell? ⟨b, off + i * 5 + 2, none⟩ = some (.int .i64 (f i).due) ∧ w'.cell? ⟨b, off + i * 5 + 3, none⟩ = some (.int .i64 (f i).weight) ∧ w'.cell? ⟨b, off + i * 5 + 4, none⟩ = some (.slice la (f i).nl lc) ∧ (Instr.lookup 134 (.map (some bT)) (.int .i64 (trackOf (f i) k)) false).run Tryz.prog w' = .ok (.slice ha L.length hc) w') (first | exact hS0 | exact hS3) ((first | (go_at_call 66; refine (trackOf_any (f i) k _ _ _ hk hnl hlg).mono ?_; rintro e W3 ⟨rfl, hB3⟩; have hS3 := And.intro (cellLater hB3 hS0.1) (And.intro (cellLater hB3 hS0.2.1) (And.intro (cellLater hB3 hS0.2.2.1) (And.intro (cellLater hB3 hS0.2.2.2.1) (And.intro (cellLater hB3 hS0.2.2.2.2.1) (And.intro (cellLater hB3 hS0.2.2.2.2.2.1) (And.intro (cellLater hB3 hS0.2.2.2.2.2.2.1) (hlk _ (Below.join (Below.refl _ _).drew (Nat.le_refl _) hB3)))))))))))
  clear hlk hS0 hS3
  have hJ := Below.join (Below.refl W.heap.size W).drew (Nat.le_refl _) hB3
  replace hX := hX.later hJ
  replace hN := Below.join hN (Nat.le_refl _) hJ
  replace p0 := cellLater hJ p0
  replace q0 := cellLater hJ q0
  replace hcs : IsHolds W3 (.slice ha L.length hc) L := IsHolds.later ⟨ha, hc, rfl, hcs⟩ hJ
  clear t0 t1 t2 t3 t4 hlg hGr hB3 hJ
  go_wp2
  go_loopw [20] (fun rr wr => ∃ (r : Nat), r ≤ L.length ∧ rr = .int .i64 r ∧ (∀ j x, j < r → L[j]? = some x → hitB i ((P i).s k) x = false) ∧ Below W3.heap.size W3 wr) (fun rr _ => L.length - (intOf rr).toNat)
  case atStart => exact ⟨0, Nat.zero_le _, rfl, fun _ _ h => by omega, Below.refl _ _⟩
  case round =>
    obtain ⟨r, hr, rfl, hall, hB⟩ := hrel
    by_cases hlt : r < L.length
    · obtain ⟨h, hh⟩ : ∃ h, L[r]? = some h := ⟨L[r], List.getElem?_eq_getElem hlt⟩
      obtain ⟨_, _, e9, hcs9⟩ := hcs
      cases e9
      obtain ⟨gg, go, rfl, c0, c1, c2⟩ := hcs9 r h hh
      have hlt' : (r : Int) < (L.length : Int) := by omega
      have hr0 : (0 : Int) ≤ (r : Int) := by omega
      replace c0 := cellLater hB c0
      replace c1 := cellLater hB c1
      replace c2 := cellLater hB c2
      replace p0 := cellLater hB p0
      replace q0 := cellLater hB q0
      replace hX := hX.later hB
      have y1 := hX.h1
      have hA := b1 wr (.cells #[.int .i64 h.tr, .int .i64 h.frm, .int .i64 h.free] 148)
      obtain ⟨d0, d1, d2⟩ := new3 wr (.int .i64 h.tr) (.int .i64 h.frm) (.int .i64 h.free) 148
      replace p0 := cellLater hA p0
      replace q0 := cellLater hA q0
      replace y1 := cellLater hA y1
      replace hX := hX.later hA
      obtain ⟨ht, hf, hfr⟩ := h
      dsimp only at c0 c1 c2 d0 d1 d2 p0 q0 y1
      by_cases hne : ht = i
      · subst hne
        have hhit : hitB ht ((P ht).s k) ⟨ht, hf, hfr⟩ = false := hitB_own rfl
        have hne' : ((ht : Int) != (ht : Int)) = false := by simp
        go_wp2
        refine nameW fun V hV => ?_
        rw [← hV] at d0 d1 d2 p0 q0 y1 hA hX
        clear hV
        go_quiet (fail)
        go_wp2
        go_roundw
        case rel => exact ⟨r + 1, by omega, by go_num, fun j x hj hx => (by by_cases e : j = r; (· subst e; rw [hh] at hx; cases hx; exact hhit); (· exact hall j x (by omega) hx)), Below.join hB (Nat.le_refl _) (below_drewN hA _)⟩
        case measure => simp [intOf]; omega
      · have hhit := hitB_met (i := i) (t := (P i).s k) (h := ⟨ht, hf, hfr⟩) hne
        have hne' : ((ht : Int) != (i : Int)) = true := by simp; omega
        cases hm : metB i ((P i).s k) ⟨ht, hf, hfr⟩
        · rw [hm] at hhit
          have hmet := fun V => metBy_any ⟨ht, hf, hfr⟩ i ((P i).s k) V
          rw [hm] at hmet
          dsimp only at hmet
          clear hm
          go_wp2
          refine nameW fun V hV => ?_
          rw [← hV] at d0 d1 d2 p0 q0 y1 hA hX
          clear hV
          (go_region_held3 (fun w' => w'.cell? ⟨wr.heap.size, 0, none⟩ = some (.int .i64 ht) ∧ w'.cell? ⟨wr.heap.size, 1, none⟩ = some (.int .i64 hf) ∧ w'.cell? ⟨wr.heap.size, 2, none⟩ = some (.int .i64 hfr) ∧ w'.cell? ⟨w.heap.size, 1, none⟩ = some (.slice (some ⟨bp, op, none⟩) np nc) ∧ w'.cell? ⟨bp, op + i, none⟩ = some (.slice (some ⟨bi, oi, none⟩) (f i).nl lpc) ∧ w'.cell? ⟨bi, oi + k, none⟩ = some (.int .i64 ((P i).s k))) (first | go_keep | (go_split_ands; refine ⟨?_, ?_, ?_, ?_, ?_, ?_⟩ <;> exact cellLater hB4 (by assumption))) ((first | (go_at_call 116; refine (hmet _).mono ?_; rintro e W4 ⟨rfl, hB4⟩))))
          go_wp2
          go_roundw
          case rel => exact ⟨r + 1, by omega, by go_num, fun j x hj hx => (by by_cases e : j = r; (· subst e; rw [hh] at hx; cases hx; exact hhit); (· exact hall j x (by omega) hx)), Below.join (Below.join hB (Nat.le_refl _) hA.drew) (Nat.le_refl _) hB4⟩
          case measure => simp [intOf]; omega
        · rw [hm] at hhit
          have hmet := fun V => metBy_any ⟨ht, hf, hfr⟩ i ((P i).s k) V
          rw [hm] at hmet
          dsimp only at hmet
          clear hm
          rw [find_first hh hhit hall] at hE
          dsimp only at hE
          go_wp2
          refine nameW fun V hV => ?_
          rw [← hV] at d0 d1 d2 p0 q0 y1 hA hX
          clear hV
          (go_region_held3 (fun w' => w'.cell? ⟨wr.heap.size, 0, none⟩ = some (.int .i64 ht) ∧ w'.cell? ⟨wr.heap.size, 1, none⟩ = some (.int .i64 hf) ∧ w'.cell? ⟨wr.heap.size, 2, none⟩ = some (.int .i64 hfr) ∧ w'.cell? ⟨w.heap.size, 1, none⟩ = some (.slice (some ⟨bp, op, none⟩) np nc) ∧ w'.cell? ⟨bp, op + i, none⟩ = some (.slice (some ⟨bi, oi, none⟩) (f i).nl lpc) ∧ w'.cell? ⟨bi, oi + k, none⟩ = some (.int .i64 ((P i).s k))) (first | go_keep | (go_split_ands; refine ⟨?_, ?_, ?_, ?_, ?_, ?_⟩ <;> exact cellLater hB4 (by assumption))) ((first | (go_at_call 116; refine (hmet _).mono ?_; rintro e W4 ⟨rfl, hB4⟩))))
          have hJ4 := Below.join (Below.refl V.heap.size V).drew (Nat.le_refl _) hB4
          replace hX := hX.later hJ4
          replace d0 := cellLater hJ4 d0
          have r0 := hX.r0
          have r1 := hX.r1
          have r2 := hX.r2
          have r3 := hX.r3
          have z0 := hX.z0
          have z1 := hX.z1
          have z2 := hX.z2
          have z3 := hX.z3
          go_wp2
          refine bodyPost_ret (v := .agg #[.int .i64 3, .int .i64 i, .int .i64 k, .int .i64 ht]) (by simp [results, Tryz.results89, go_sem, r0, r1, r2, r3]) rfl ⟨by first | (rw [hE]; rfl) | (subst hE; rfl), ?_⟩
          exact below_set4 (Below.join (Below.join (Below.join hN (Nat.le_refl _) hB) (Nat.le_refl _) hA) (Nat.le_refl _) hJ4) (by omega) _ _ _ _
    · have hlt' : (L.length : Int) ≤ (r : Int) := by omega
      rw [find_no (fun j x hj hx => hall j x (by omega) hx)] at hE
      dsimp only at hE
      replace hX := hX.later hB
      have r0 := hX.r0
      have r1 := hX.r1
      have r2 := hX.r2
      have r3 := hX.r3
      have z0 := hX.z0
      have z1 := hX.z1
      have z2 := hX.z2
      have z3 := hX.z3
      clear hlt hr
      go_wp2
      refine bodyPost_ret (v := .agg #[.int .i64 0, .int .i64 0, .int .i64 0, .int .i64 0]) (by simp [results, Tryz.results89, go_sem, r0, r1, r2, r3]) rfl ⟨by first | (rw [hE]; rfl) | (subst hE; rfl), ?_⟩
      exact below_set4 (Below.join hN (Nat.le_refl _) hB) (by omega) _ _ _ _

set_option maxRecDepth 20000 in
set_option maxHeartbeats 8000000 in
theorem stationFull_any (a : Option Addr) (len cap : Nat) (g : Nat → Int) (gap : Int) (a' : Option Addr) (np cap' : Nat) (f : Nat → TrainD) (c : Option Addr) (nc b0 bT bS n : Nat) (mT mS : Int → Value) (LT : Int → List HoldD) (P : Nat → RowD) (i k : Nat) (w : World)
    (hR : RightL len np f) (hG : RightG len g gap np f) (hQ : RightP np f np P) (hi : i < np) (hk : k < (f i).nl) (hI : IsInts 0 w.heap.size w a len g) (hT : IsTrains 0 w.heap.size w a' np f) (hP : IsRows 0 w.heap.size w c np P) (hGr : Gr w b0 bT bS n mT mS LT (listS np f P)) :
    Calls Tryz.prog 90 #[.agg #[.slice a' np cap', .slice c np nc, .slice a len cap, .map (some bT), .map (some bS)], .int .i64 i, .int .i64 k] w fun e w' => e = .returned (clashV (fullC g np f P i k)) ∧ Below w.heap.size w w' := by
  have hX := LookBox.new w a len cap a' np cap' c nc bT bS 136 86
  have hN := b2 w (.cells #[.slice a' np cap', .slice c np nc, .slice a len cap, .map (some bT), .map (some bS)] 136) (.cells #[.int .i64 0, .int .i64 0, .int .i64 0, .int .i64 0] 86)
  have htr := hR.tr
  have hRi := hR.train i hi
  have hnl := hRi.nl
  obtain ⟨x0, x1⟩ := hR.to i hi k hk
  have hst := hR.st
  have hi' : (i : Int) < (np : Int) := by omega
  have hi0 : (0 : Int) ≤ (i : Int) := by omega
  have hk' : (k : Int) < ((f i).nl : Int) := by omega
  have hk0 : (0 : Int) ≤ (k : Int) := by omega
  obtain ⟨b, off, la, lc, rfl, _, hb, _, _, _, _, t4, hlg, _⟩ := hT i hi
  obtain ⟨bl, ol, rfl, _, hbl, g0, _, _⟩ := hlg k hk
  obtain ⟨bp, op, lp, lpc, rfl, _, hbp, p0, hin, _⟩ := hP i hi
  rw [hQ.row i hi] at p0 hin
  obtain ⟨bi, oi, rfl, _, hbi, q0⟩ := hin k hk
  have hE : fullC g np f P i k = if g ((f i).leg k).to.toNat < ((listS np f P ((f i).leg k).to).countP (metB i ((P i).s k)) : Int) then (4, (i : Int), (k : Int), 0) else (0, 0, 0, 0) := rfl
  generalize fullC g np f P i k = vv at hE ⊢
  obtain ⟨q, hq⟩ : ∃ q : Nat, ((f i).leg k).to = (q : Int) := ⟨((f i).leg k).to.toNat, by omega⟩
  rw [hq] at g0 hE x1
  rw [Int.toNat_natCast] at hE
  clear hq x0
  have hql : q < len := by omega
  obtain ⟨ba, oa, rfl, _, hba, w0⟩ := hI q hql
  have hll : (listS np f P (q : Int)).length ≤ 10 := Nat.le_trans (allH_len f np) hG.legs
  replace t4 := cellLater hN t4
  replace g0 := cellLater hN g0
  replace p0 := cellLater hN p0
  replace q0 := cellLater hN q0
  replace w0 := cellLater hN w0
  replace hGr := hGr.later hN
  obtain ⟨ha, hc, hv, hcs⟩ := isHolds_of (hGr.oS (q : Int))
  have hlk := hGr.kS.lookup Tryz.underlying3 Tryz.underlying134 (Tryz.zeroHolds _) (x := (q : Int)) (wf_small (by omega) (by omega))
  rw [hv] at hlk
  generalize listS np f P (q : Int) = L at hE hcs hlk hll
  clear hv hGr
  have y0 := hX.h0
  have y4 := hX.h4
  have hq0 : (0 : Int) ≤ (q : Int) := by omega
  go_enter Tryz.func90, Tryz.ntmps90
  go_wp2
  refine nameW fun W3 hW => ?_
  rw [← hW] at hX hN p0 q0 w0 hcs
  clear hW y0 y4 hlk t4 g0
  replace hcs : IsHolds W3 (.slice ha L.length hc) L := ⟨ha, hc, rfl, hcs⟩
  go_loopw [8, 26] (fun cc rr wr => ∃ (r : Nat), r ≤ L.length ∧ rr = .int .i64 r ∧ cc = .int .i64 ((L.take r).countP (metB i ((P i).s k)) : Nat) ∧ Below W3.heap.size W3 wr) (fun _ rr _ => L.length - (intOf rr).toNat)
  case atStart => exact ⟨0, Nat.zero_le _, rfl, by simp, Below.refl _ _⟩
  case round =>
    obtain ⟨r, hr, rfl, rfl, hB⟩ := hrel
    by_cases hlt : r < L.length
    · obtain ⟨h, hh⟩ : ∃ h, L[r]? = some h := ⟨L[r], List.getElem?_eq_getElem hlt⟩
      have hct := count_take (p := metB i ((P i).s k)) hh
      have hcl : (L.take r).countP (metB i ((P i).s k)) ≤ 10 := Nat.le_trans List.countP_le_length (by rw [List.length_take]; omega)
      obtain ⟨_, _, e9, hcs9⟩ := hcs
      cases e9
      obtain ⟨gg, go, rfl, c0, c1, c2⟩ := hcs9 r h hh
      have hlt' : (r : Int) < (L.length : Int) := by omega
      have hr0 : (0 : Int) ≤ (r : Int) := by omega
      replace c0 := cellLater hB c0
      replace c1 := cellLater hB c1
      replace c2 := cellLater hB c2
      have hA := b1 wr (.cells #[.int .i64 h.tr, .int .i64 h.frm, .int .i64 h.free] 148)
      obtain ⟨d0, d1, d2⟩ := new3 wr (.int .i64 h.tr) (.int .i64 h.frm) (.int .i64 h.free) 148
      replace p0 := cellLater hA (cellLater hB p0)
      replace q0 := cellLater hA (cellLater hB q0)
      have y1 := cellLater hA (cellLater hB hX.h1)
      obtain ⟨ht, hf, hfr⟩ := h
      dsimp only at c0 c1 c2 d0 d1 d2 hA p0 q0 y1
      have hmet := fun V => metBy_any ⟨ht, hf, hfr⟩ i ((P i).s k) V
      dsimp only at hmet
      generalize hcn : (L.take r).countP (metB i ((P i).s k)) = cn at hct hcl
      cases hm : metB i ((P i).s k) ⟨ht, hf, hfr⟩
      · rw [hm] at hmet hct
        simp only [Bool.false_eq_true, if_false, Nat.add_zero] at hct
        clear hm hcn
        go_wp2
        refine nameW fun V hV => ?_
        rw [← hV] at d0 d1 d2 p0 q0 y1 hA
        clear hV
        go_region_held3 (fun w' => w'.cell? ⟨wr.heap.size, 0, none⟩ = some (.int .i64 ht) ∧ w'.cell? ⟨wr.heap.size, 1, none⟩ = some (.int .i64 hf) ∧ w'.cell? ⟨wr.heap.size, 2, none⟩ = some (.int .i64 hfr) ∧ w'.cell? ⟨w.heap.size, 1, none⟩ = some (.slice (some ⟨bp, op, none⟩) np nc) ∧ w'.cell? ⟨bp, op + i, none⟩ = some (.slice (some ⟨bi, oi, none⟩) (f i).nl lpc) ∧ w'.cell? ⟨bi, oi + k, none⟩ = some (.int .i64 ((P i).s k))) (first | go_keep | (go_split_ands; refine ⟨?_, ?_, ?_, ?_, ?_, ?_⟩ <;> exact cellLater hB4 (by assumption))) ((first | (go_at_call 116; refine (hmet _).mono ?_; rintro e W4 ⟨rfl, hB4⟩)))
        go_wp2
        go_roundw
        case rel => exact ⟨r + 1, by omega, by go_num, by rw [hct], Below.join (Below.join hB (Nat.le_refl _) hA.drew) (Nat.le_refl _) hB4⟩
        case measure => simp [intOf]; omega
      · rw [hm] at hmet hct
        simp only [if_true] at hct
        clear hm hcn
        go_wp2
        refine nameW fun V hV => ?_
        rw [← hV] at d0 d1 d2 p0 q0 y1 hA
        clear hV
        go_region_held3 (fun w' => w'.cell? ⟨wr.heap.size, 0, none⟩ = some (.int .i64 ht) ∧ w'.cell? ⟨wr.heap.size, 1, none⟩ = some (.int .i64 hf) ∧ w'.cell? ⟨wr.heap.size, 2, none⟩ = some (.int .i64 hfr) ∧ w'.cell? ⟨w.heap.size, 1, none⟩ = some (.slice (some ⟨bp, op, none⟩) np nc) ∧ w'.cell? ⟨bp, op + i, none⟩ = some (.slice (some ⟨bi, oi, none⟩) (f i).nl lpc) ∧ w'.cell? ⟨bi, oi + k, none⟩ = some (.int .i64 ((P i).s k))) (first | go_keep | (go_split_ands; refine ⟨?_, ?_, ?_, ?_, ?_, ?_⟩ <;> exact cellLater hB4 (by assumption))) ((first | (go_at_call 116; refine (hmet _).mono ?_; rintro e W4 ⟨rfl, hB4⟩)))
        go_wp2
        go_roundw
        case rel => exact ⟨r + 1, by omega, by go_num, by rw [hct]; go_num, Below.join (Below.join hB (Nat.le_refl _) hA.drew) (Nat.le_refl _) hB4⟩
        case measure => simp [intOf]; omega
    · have hlt' : (L.length : Int) ≤ (r : Int) := by omega
      have hre : L.take r = L := List.take_of_length_le (by omega)
      rw [hre]
      replace hX := hX.later hB
      replace w0 := cellLater hB w0
      have y2 := hX.h2
      have r0 := hX.r0
      have r1 := hX.r1
      have r2 := hX.r2
      have r3 := hX.r3
      have z0 := hX.z0
      have z1 := hX.z1
      have z2 := hX.z2
      have z3 := hX.z3
      generalize L.countP (metB i ((P i).s k)) = cn at hE ⊢
      clear hlt hr hre hcs
      by_cases hbad : g q < (cn : Int)
      · rw [if_pos hbad] at hE
        have hbad' : (cn : Int) > g q := hbad
        go_wp2
        refine bodyPost_ret (v := .agg #[.int .i64 4, .int .i64 i, .int .i64 k, .int .i64 0]) (by simp [results, Tryz.results90, go_sem, r0, r1, r2, r3]) rfl ⟨by first | (rw [hE]; rfl) | (subst hE; rfl), ?_⟩
        exact below_set4 (Below.join hN (Nat.le_refl _) hB) (by omega) _ _ _ _
      · rw [if_neg hbad] at hE
        go_wp2
        refine bodyPost_ret (v := .agg #[.int .i64 0, .int .i64 0, .int .i64 0, .int .i64 0]) (by simp [results, Tryz.results90, go_sem, r0, r1, r2, r3]) rfl ⟨by first | (rw [hE]; rfl) | (subst hE; rfl), ?_⟩
        exact below_set4 (Below.join hN (Nat.le_refl _) hB) (by omega) _ _ _ _
end Go.Proofs.YthnlkpifafklkaaGreatDoor
