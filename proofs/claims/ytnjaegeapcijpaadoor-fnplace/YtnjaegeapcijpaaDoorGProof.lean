/-
  The law of plans of orders: its last loop.
  The law of plans of orders: walked.
  From the reading of an argument to its cells: bytes.
  The statement of the law of plans of orders: the row, and its card.
-/
import Derived.Test.YtnjaegeapcijpaaDoorGLine
import Derived.Test.YtnjaegeapcijpaaDoorGPr
import Derived.Test.YtnjaegeapcijpaaDoorGPlace
import Derived.Test.YtnjaegeapcijpaaDoorGSpecP
import Derived.Test.YtnjaegeapcijpaaDoorGCheck
import Derived.Test.YtnjaegeapcijpaaDoorGLaid
import Derived.Test.YtnjaegeapcijpaaDoorGCur
namespace Go.Proofs.YtnjaegeapcijpaaDoor
open Go.RowKit

noncomputable def placeL : Code := ((Tryd.f3.body.bind (loopAtC 16)).getD .skip)
/-- how many of each have been looked at, in the row for it -/
def NxI (gN np : Nat) (nx : Nat → Nat) (W : World) : Prop := ∀ j, j < np → W.cell? ⟨gN, j, none⟩ = some (.int .i64 (nx j : Nat)) ∧ W.frozen? ⟨gN, j, none⟩ = false
theorem cellUnder {w w' : World} {n b o : Nat} {v : Value} (h : Below n w w') (hb : b < n) (hc : w.cell? ⟨b, o, none⟩ = some v) : w'.cell? ⟨b, o, none⟩ = some v := (World.cell?_of_block (w := w) (w' := w') (a := ⟨b, o, none⟩) (h.block b hb)).trans hc
theorem NxI.step {gN np : Nat} {nx nx' : Nat → Nat} {W : World} (h : NxI gN np nx W) {i : Nat} (hi : i < np) (hx : ∀ j, nx' j = nx j + (if j = i then 1 else 0)) {x : Int} (hxi : x = (nx i : Int) + 1) : NxI gN np nx' (W.setCell ⟨gN, i, none⟩ (.int .i64 x)) := fun j hj => by
  obtain ⟨h1, h2⟩ := h j hj
  refine ⟨?_, (World.frozen?_setCell ..).trans h2⟩
  by_cases e : j = i
  · subst e
    rw [World.cell?_setCell_same _ _ _ h1, hx j, if_pos rfl, hxi]
    rfl
  · rw [hx j, if_neg e]
    exact (cell_set_ne (by omega)).trans h1
set_option maxRecDepth 20000 in
set_option maxHeartbeats 8000000 in
theorem place_loop {s0 s1 s2 s3 s4 s5 s6 s8 s11 s12 s13 s14 s15 s16 s17 s18 s19 s20 s21 s22 s23 s24 s25 s26 s27 s28 s29 s30 s31 s32 s33 s34 s35 s36 s37 s38 s39 s40 s41 s42 s43 s44 s45 s46 s47 s48 s49 s50 s51 s52 s53 s54 s55 s56 s57 s58 s59 s60 s61 s62 s63 s64 s65 s69 s70 s71 s72 s73 s74 s75 s76 s77 s78 s79 s80 s81 s82 s83 s84 s85 s86 s87 s88 s89 s90 s91 s92 s93 s94 : Value} (bp gN np : Nat) (oa : Option Addr) (no oc : Nat) (o : Nat → Int) (c : Option Addr) (nc : Nat) (PF : Nat → RowD) (nx : Nat → Nat → Nat) (ls : Nat → Int) (W : World) (K : Act → World → Prop) (Q : Exit → Act → World → Prop)
    (hK : ∀ (u4 u10 u12 u13 u68 u69 u70 u71 u72 u73 u74 u75 u76 u77 u78 u79 u80 u81 u82 u83 u84 u85 u86 u87 u88 u89 u90 u91 u92 u93 u94 : Value) (wr : World), Below gN W wr → K ⟨(s0 :: s1 :: s2 :: s3 :: u4 :: s5 :: s6 :: .pointer (some ⟨bp, 0, none⟩) :: s8 :: .slice (some ⟨gN, 0, none⟩) np np :: u10 :: s11 :: u12 :: u13 :: s14 :: s15 :: s16 :: s17 :: s18 :: s19 :: s20 :: s21 :: s22 :: s23 :: s24 :: s25 :: s26 :: s27 :: s28 :: s29 :: s30 :: s31 :: s32 :: s33 :: s34 :: s35 :: s36 :: s37 :: s38 :: s39 :: s40 :: s41 :: s42 :: s43 :: s44 :: s45 :: s46 :: s47 :: s48 :: s49 :: s50 :: s51 :: s52 :: s53 :: s54 :: s55 :: s56 :: s57 :: s58 :: s59 :: s60 :: s61 :: s62 :: s63 :: s64 :: s65 :: .slice oa no oc :: .int .i64 no :: u68 :: u69 :: u70 :: u71 :: u72 :: u73 :: u74 :: u75 :: u76 :: u77 :: u78 :: u79 :: u80 :: u81 :: u82 :: u83 :: u84 :: u85 :: u86 :: u87 :: u88 :: u89 :: u90 :: u91 :: u92 :: u93 :: u94 :: []).toArray, []⟩ wr)
    (hno : no ≤ 10) (_ : np ≤ 5) (hbp : bp < gN) (hc : W.cell? ⟨bp, 2, none⟩ = some (.slice c np nc)) (hP : IsRows 0 gN W c np PF) (hO : IsInts 0 gN W oa no o) (hN : NxI gN np (nx 0) W) (h10 : ∀ j, j < np → (PF j).n ≤ 10)
    (hst : ∀ n, n < no → ∃ i : Nat, i < np ∧ o n = (i : Int) ∧ nx n i < (PF i).n ∧ (PF i).s (nx n i) = ls (n + 1) ∧ ls n ≤ ls (n + 1) ∧ ∀ j, nx (n + 1) j = nx n j + (if j = i then 1 else 0)) :
    Code.wp Tryd.prog (Code.loop placeL) (Exit.inBlock 0 (Exit.then K Q)) ⟨(s0 :: s1 :: s2 :: s3 :: s4 :: s5 :: s6 :: .pointer (some ⟨bp, 0, none⟩) :: s8 :: .slice (some ⟨gN, 0, none⟩) np np :: .int .i64 (ls 0) :: s11 :: s12 :: s13 :: s14 :: s15 :: s16 :: s17 :: s18 :: s19 :: s20 :: s21 :: s22 :: s23 :: s24 :: s25 :: s26 :: s27 :: s28 :: s29 :: s30 :: s31 :: s32 :: s33 :: s34 :: s35 :: s36 :: s37 :: s38 :: s39 :: s40 :: s41 :: s42 :: s43 :: s44 :: s45 :: s46 :: s47 :: s48 :: s49 :: s50 :: s51 :: s52 :: s53 :: s54 :: s55 :: s56 :: s57 :: s58 :: s59 :: s60 :: s61 :: s62 :: s63 :: s64 :: s65 :: .slice oa no oc :: .int .i64 no :: .int .i64 0 :: s69 :: s70 :: s71 :: s72 :: s73 :: s74 :: s75 :: s76 :: s77 :: s78 :: s79 :: s80 :: s81 :: s82 :: s83 :: s84 :: s85 :: s86 :: s87 :: s88 :: s89 :: s90 :: s91 :: s92 :: s93 :: s94 :: []).toArray, []⟩ W := by
  conv => arg 2; arg 1; whnf
  have hK' : Hid _ := hK
  have hst' : Hid _ := hst
  clear hK hst
  go_loopw [10, 68] (fun c10 c68 wr => ∃ n : Nat, n ≤ no ∧ c68 = .int .i64 n ∧ c10 = .int .i64 (ls n) ∧ NxI gN np (nx n) wr ∧ Below gN W wr) (fun _ c68 _ => no - (intOf c68).toNat)
  case atStart => exact ⟨0, Nat.zero_le _, rfl, rfl, hN, Below.refl _ _⟩
  case round =>
    clear hN
    obtain ⟨n, hn, rfl, rfl, hN, hB⟩ := hrel
    by_cases hlt : n < no
    · have hlt' : (n : Int) < (no : Int) := by omega
      have hn0 : (0 : Int) ≤ (n : Int) := by omega
      obtain ⟨i, hi, hoi, hq, hat, hls, hnx⟩ := hst'.out n hlt
      obtain ⟨bo, oo, rfl, _, hbo, co⟩ := hO n hlt
      rw [hoi] at co
      obtain ⟨br, ro, lr, lrc, rfl, _, hbr, r0, hin, _⟩ := hP i hi
      obtain ⟨b3, o3, rfl, _, hb3, r1⟩ := hin (nx n i) hq
      rw [hat] at r1
      obtain ⟨nn, nz⟩ := hN i hi
      have h10i := h10 i hi
      have hi' : (i : Int) < (np : Int) := by omega
      have hi0 : (0 : Int) ≤ (i : Int) := by omega
      have hq' : (nx n i : Int) < ((PF i).n : Int) := by omega
      have hq0 : (0 : Int) ≤ (nx n i : Int) := by omega
      have k0 := cellUnder hB hbp hc
      have k1 := cellUnder hB hbo co
      have k2 := cellUnder hB hbr r0
      have k3 := cellUnder hB hb3 r1
      have hls' : ¬ (ls (n + 1) < ls n) := by omega
      have hnx' : Hid _ := hnx
      clear hnx hat hoi
      go_wp2
      go_region_held3 (fun w' => w'.cell? ⟨bp, 2, none⟩ = some (.slice (some ⟨br, ro, none⟩) np nc) ∧ w'.cell? ⟨br, ro + i, none⟩ = some (.slice (some ⟨b3, o3, none⟩) (PF i).n lrc) ∧ w'.cell? ⟨gN, i, none⟩ = some (.int .i64 (nx n i : Nat)) ∧ w'.cell? ⟨b3, o3 + nx n i, none⟩ = some (.int .i64 (ls (n + 1)))) (go_keep) (fail)
      have nn' : wr.drew.cell? ⟨gN, i, none⟩ = some (.int .i64 (nx n i : Nat)) := nn
      have nz' : wr.drew.frozen? ⟨gN, i, none⟩ = false := nz
      clear k0 k1 k2 k3
      go_wp2
      go_roundw
      case rel => exact ⟨n + 1, by omega, rfl, rfl, NxI.step (fun j hj => hN j hj) hi hnx'.out rfl, (hB.drew).setCell (p := ⟨gN, i, none⟩) (Nat.le_refl _) _⟩
      case measure => simp only [intOf]; omega
    · obtain rfl : n = no := by omega
      go_wp2
      apply hK'.out
      exact hB
end Go.Proofs.YtnjaegeapcijpaaDoor


namespace Go.Proofs.YtnjaegeapcijpaaDoor
open Go.RowKit

theorem zeros_at {W : World} {b0 g n : Nat} (h : W.ownsRow b0 3 1 (.slice (some ⟨g, 0, none⟩) n n) n (madeCells #[Value.int .i64 0] n).toList) : ∀ i, i < n → W.cell? ⟨g, i, none⟩ = some (.int .i64 (0 : Nat)) ∧ W.frozen? ⟨g, i, none⟩ = false := fun i hi => by
  refine ⟨?_, h.frozenAt i⟩
  rw [h.cellAt i (by omega), toList_madeCells_one, List.getElem?_replicate, if_pos (by omega)]
  rfl
theorem below_none {A B : World} (h : A.grownBy B none) : Below A.heap.size A B := ⟨h.os, h.tape, h.output, h.size, fun k hk => h.block k hk (by simp)⟩
theorem OwnP.caps {B0 : Nat} {W : World} {c : Option Addr} {np : Nat} {P : Nat → RowD} (h : OwnP B0 W c np P) : Caps W c np := fun j hj => by
  obtain ⟨gR, v, h1, h2, h3, _⟩ := h
  obtain ⟨e, hc, _⟩ := h2 j hj
  rcases (h3 j hj).2 with ⟨e0, h0⟩ | ⟨g, cp, cur, e0, hb, hg, hle, _⟩
  · exact ⟨gR, 0, none, 0, 0, e, by rw [Nat.zero_add, hc, e0], Nat.le_refl _⟩
  · exact ⟨gR, 0, some ⟨g, 0, none⟩, (P j).n, cp, e, by rw [Nat.zero_add, hc, e0], hle⟩
/-- a placed plan, as it lies -/
theorem placed_lies {B0 : Nat} {W : World} {st : StP} {np : Nat} {v : Value} (h : IsPlaced B0 W st np v) : ∃ (c : Option Addr) (nc : Nat), v = .agg #[.int .i64 st.code, .int .i64 (st.at_ : Int), .slice c (if st.code = 0 then np else 0) nc] ∧ IsRows 0 W.heap.size W c (if st.code = 0 then np else 0) st.P ∧ (∀ j, j < (if st.code = 0 then np else 0) → (st.P j).n ≤ 10) ∧ (st.code = 0 → OwnP B0 W c np st.P) := by
  obtain ⟨cv, rfl, h1, h2⟩ := h
  by_cases e : st.code = 0
  · obtain ⟨c, nc, rfl, ho, h10⟩ := h2 e
    rw [if_pos e]
    exact ⟨c, nc, rfl, (ho.rows h10).mono (Nat.zero_le _) (Nat.le_refl _), h10, fun _ => ho⟩
  · rw [if_neg e, h1 e]
    exact ⟨none, 0, rfl, fun j hj => absurd hj (Nat.not_lt_zero j), fun j hj => absurd hj (Nat.not_lt_zero j), fun e2 => absurd e2 e⟩
set_option maxRecDepth 20000 in
set_option maxHeartbeats 8000000 in
theorem lawPlaces_any (a : Option Addr) (len cap : Nat) (a2 : Option Addr) (len2 cap2 : Nat) (w : World) (hI : IsB w a len) (hI2 : IsB w a2 len2) (hg : w.cell? ⟨0, 0, none⟩ = some (.iface 121 (.agg #[.pointer (some ⟨1, 96, none⟩)]))) :
    Calls Tryd.prog 3 #[.slice a len cap, .slice a2 len2 cap2] w fun e w' => e = .returned (.bool true) ∧ Below w.heap.size w w' := by
  by_cases hlen : len ≤ 1048576
  · have hlen' : ¬ ((1048576 : Int) < (len : Int)) := by omega
    by_cases hlen2 : len2 ≤ 1048576
    · have hlen2' : ¬ ((1048576 : Int) < (len2 : Int)) := by omega
      have hD := lines_any w a len cap 9 hlen hI (by decide) (by decide)
      go_enter Tryd.func3, Tryd.ntmps3
      go_wp2_with (go_at_call 4; fail)
      refine hD.mono ?_
      rintro _ w1 ⟨l, hDr, L, at_, ct, aT, cT, hlL, rfl, hown, hB1⟩
      have hF := hDr.right
      have hL5 := hDr.trs
      have hLl : L.length = l.trains.length := by rw [hlL, List.length_map]
      obtain ⟨x1, x2, ex, hIn⟩ := ownInts hown.ints
      cases ex
      obtain ⟨x3, x4, ex, hT1⟩ := hown.trs.trains (fun x hx => by
        have h1 := hDr.legs
        rw [hlL, List.map_map] at h1
        have := Nat.le_trans (le_sum (List.mem_map.2 ⟨x, hx, rfl⟩)) h1
        have h2 : x.1.legs.length ≤ 10 := this
        unfold maxLen; omega)
      cases ex
      rw [← hlL, hLl] at hT1
      rw [hLl]
      replace hIn : IsInts 0 w1.heap.size w1 at_ l.tracks.length (gI l.tracks) := hIn.mono (Nat.zero_le _) (Nat.le_refl _)
      replace hT1 : IsTrains 0 w1.heap.size w1 aT l.trains.length (fT l.trains) := hT1.mono (Nat.zero_le _) (Nat.le_refl _)
      clear hD hown hlL hLl hDr hI
      generalize gI l.tracks = g at hIn hF
      generalize fT l.trains = f at hT1 hF
      generalize l.tracks.length = nt at hIn hF ⊢
      generalize l.trains.length = np at hT1 hF hL5 ⊢
      generalize l.gap = gap at hF ⊢
      clear l
      have hR := rightL_of hF
      have hn10 : legSum f np ≤ 10 := (rightG_of hF).legs
      have hml : ∀ j, j < np → (f j).nl ≤ 1048576 := fun j hj => by have := (hR.train j hj).nl; omega
      have hnt : nt ≤ 1048576 := by have := hR.st; omega
      have hnp' : np ≤ 1048576 := by omega
      have hg1 := cellLater hB1 hg
      have hF' : Hid _ := hF
      have hR' : Hid _ := hR
      clear hF hR
      have hA := b1 w1 (.cells #[.slice at_ nt ct, .int .i64 gap, .slice aT np cT] 26)
      obtain ⟨n0, n1, n2⟩ := new3 w1 (.slice at_ nt ct) (.int .i64 gap) (.slice aT np cT) 26
      have hOr := anOrder_any at_ nt ct gap aT np cT f a2 len2 cap2 _ hlen2 ((hI2.later hB1).later hA) (hT1.grow hA) hL5 hn10
      go_wp2_with (go_at_call 5; fail)
      refine hOr.mono ?_
      rintro _ w2 ⟨⟨v, D, rfl, hoD, hDl⟩, hB2⟩
      clear hOr
      obtain ⟨oa, oc, rfl, hO2⟩ := ownInts hoD
      replace hO2 : IsInts 0 w2.heap.size w2 oa D.length (gI D) := hO2.mono (Nat.zero_le _) (Nat.le_refl _)
      have hD10 : D.length ≤ 10 := by omega
      clear hDl hoD
      generalize gI D = o at hO2
      generalize D.length = no at hO2 hD10 ⊢
      clear D
      obtain ⟨st, hst⟩ : ∃ st, st = placeSt nt g gap np f no o := ⟨_, rfl⟩
      have hC2 := Below.join hA (Nat.le_refl _) hB2
      have q0 := cellLater hB2 n0
      have q1 := cellLater hB2 n1
      have q2 := cellLater hB2 n2
      clear n0 n1 n2 hA hB2
      have hP1 := implPlace_any at_ nt ct g gap aT np cT f oa no oc o w2 hnt hnp' hml (by omega) (hIn.grow hC2) (hT1.grow hC2) hO2 (cellLater hC2 hg1)
      rw [← hst] at hP1
      have hP2 : ∀ V : World, Below w2.heap.size w2 V → Calls Tryd.prog 7 #[.agg #[.slice at_ nt ct, .int .i64 gap, .slice aT np cT], .slice oa no oc] V fun e w' => (∃ v, e = .returned v ∧ IsPlaced V.heap.size w' st np v) ∧ Below V.heap.size V w' := fun V hV => by
        have h := specPlace_any at_ nt ct g gap aT np cT f oa no oc o V hnt hnp' hml (by omega) ((hIn.grow hC2).grow hV) ((hT1.grow hC2).grow hV) (hO2.grow hV)
        rw [← hst] at h
        exact h
      have hst' : Hid _ := hst
      clear hst
      go_wp2_with (go_at_call 6; fail)
      refine hP1.mono ?_
      rintro _ w3 ⟨⟨v3, rfl, hPl3⟩, hB3⟩
      clear hP1
      obtain ⟨c3, nc3, rfl, hr3, hr10, ho3⟩ := placed_lies hPl3
      clear hPl3
      obtain ⟨kn, hkn⟩ : ∃ kn, kn = if st.code = 0 then np else 0 := ⟨_, rfl⟩
      rw [← hkn] at hr3 hr10 ⊢
      have hkn' : Hid _ := hkn
      have hkn1 : kn ≤ 1048576 := by rw [hkn]; split <;> omega
      clear hkn
      have hA3 := b1 w3 (.cells #[.int .i64 st.code, .int .i64 (st.at_ : Int), .slice c3 kn nc3] 33)
      obtain ⟨p0, p1, p2⟩ := new3 w3 (.int .i64 st.code) (.int .i64 (st.at_ : Int)) (.slice c3 kn nc3) 33
      have hC3 := Below.join hB3 (Nat.le_refl _) hA3
      replace q0 := cellLater hC3 q0
      replace q1 := cellLater hC3 q1
      replace q2 := cellLater hC3 q2
      have hP3 := hP2 _ hC3
      clear hP2
      go_wp2_with (go_at_call 7; fail)
      refine hP3.mono ?_
      rintro _ w4 ⟨⟨v4, rfl, hPl4⟩, hB4⟩
      clear hP3
      obtain ⟨c4, nc4, rfl, hr4, _, _⟩ := placed_lies hPl4
      clear hPl4
      rw [← hkn'.out] at hr4 ⊢
      have hA4 := b1 w4 (.cells #[.int .i64 st.code, .int .i64 (st.at_ : Int), .slice c4 kn nc4] 33)
      obtain ⟨t0, t1, t2⟩ := new3 w4 (.int .i64 st.code) (.int .i64 (st.at_ : Int)) (.slice c4 kn nc4) 33
      have hC4 := Below.join hB4 (Nat.le_refl _) hA4
      replace q0 := cellLater hC4 q0
      replace q1 := cellLater hC4 q1
      replace q2 := cellLater hC4 q2
      replace p0 := cellLater hC4 p0
      replace p1 := cellLater hC4 p1
      replace p2 := cellLater hC4 p2
      have hr3' := (hr3.grow hA3).grow hC4
      have hr4' := hr4.grow hA4
      have hW := wPlan_same c3 c4 kn nc3 nc4 st.P _ hkn1 (fun j hj => by have := hr10 j hj; omega) hr3' hr4'
      go_wp2_with (go_at_call 8; fail)
      refine hW.mono ?_
      rintro _ w5 ⟨rfl, hB5⟩
      clear hW hr4' hr4 hA4 t0 t1 t2
      replace q0 := cellLater hB5 q0
      replace q1 := cellLater hB5 q1
      replace q2 := cellLater hB5 q2
      replace p0 := cellLater hB5 p0
      replace p1 := cellLater hB5 p1
      replace p2 := cellLater hB5 p2
      replace hr3' := hr3'.grow hB5
      have hC35 := Below.join hA3 (Nat.le_refl _) (Below.join hC4 (Nat.le_refl _) hB5)
      have hC25 := Below.join hB3 (Nat.le_refl _) hC35
      have hBw := Below.join hB1 (Nat.le_refl _) (Below.join hC2 (Nat.le_refl _) hC25)
      by_cases hz : st.code = 0
      · have hknp : kn = np := by rw [hkn'.out, if_pos hz]
        subst hknp
        have hz' : (placeSt nt g gap kn f no o).code = 0 := by rw [← hst'.out]; exact hz
        have hcl := placed_clash hz'
        rw [← hst'.out] at hcl
        obtain ⟨hx1, hx2, hrc, hx4, hrun⟩ := placeSt_zero hz'
        clear hx1 hx2 hx4
        rw [← hst'.out] at hrun
        have hrun' : Hid _ := hrun
        have hrc' : Hid _ := hrc
        have hCk := implCheck_any at_ nt ct g gap aT kn cT f c3 kn nc3 st.P w5 hnt hnp' hml hnp' (fun j hj => by have := hr10 j hj; omega) ((hIn.grow hC2).grow hC25) ((hT1.grow hC2).grow hC25) hr3' (((ho3 hz).caps).later hC35) (cellLater (Below.join hC2 (Nat.le_refl _) hC25) hg1)
        rw [hcl] at hCk
        clear hcl hrun hrc hz'
        obtain ⟨i0, ii, iz0, iz1, iz2⟩ := info_parts Tryd.infoInt
        go_wp2_with (go_at_call 9; fail)
        refine hCk.mono ?_
        rintro _ w6 ⟨rfl, hB6⟩
        unfold clashV
        replace q0 := cellLater hB6 q0
        replace q1 := cellLater hB6 q1
        replace q2 := cellLater hB6 q2
        replace p2 := cellLater hB6 p2
        have hr6 := hr3'.grow hB6
        have hO6 := hO2.grow (Below.join hC25 (Nat.le_refl _) hB6)
        have hp6 := ltCell p2
        clear hCk hr3'
        go_wp2_with (at_make; refine wpList_make_full _ rfl _ _ 23 rfl 0 3 i0 _ 1 Tryd.underlying23 ii iz0 iz1 .i64 .i64 _ _ kn rfl rfl rfl rfl (by rw [iz2]; omega) (by unfold maxLen; omega) (Nat.zero_le _) ?_)
        intro W7 hmade hgrow
        have hB7 := below_none hgrow
        have hZ := zeros_at hmade
        have p7 := cellLater hB7 p2
        have hBw7 := Below.join (Below.join hBw (Nat.le_refl _) hB6) (Nat.le_refl _) hB7
        have hsw : w.heap.size ≤ w6.heap.size := (Below.join hBw (Nat.le_refl _) hB6).size
        clear hmade hgrow q0 q1 q2 p0 p1 p2
        go_wp2
        rename_i Kz az
        refine place_loop w3.heap.size w6.heap.size kn oa no oc o c3 nc3 st.P (fun n j => ((runP kn g f gap o n).P j).n) (fun n => (runP kn g f gap o n).last) W7 Kz _ ?_ hD10 hL5 hp6 p7 (hr6.below hB7 (Nat.le_refl _)) (hO6.below hB7 (Nat.le_refl _)) (fun j hj => hZ j hj) hr10 (fun n hn => ?_)
        · intro u4 u10 u12 u13 u68 u69 u70 u71 u72 u73 u74 u75 u76 u77 u78 u79 u80 u81 u82 u83 u84 u85 u86 u87 u88 u89 u90 u91 u92 u93 u94 wr hBr
          refine az _ _ ?_
          clear az
          go_wp2
          go_ret
          exact ⟨rfl, hBw7.trans (hBr.mono hsw)⟩
        · have h := run_leg hR'.out (rightG_of hF'.out) hD10 hrc'.out hn
          rw [← hrun'.out] at h
          exact h
      · have hzb : (st.code == 0) = false := by simpa using hz
        go_wp2
        go_ret
        exact ⟨rfl, hBw⟩
    · have hlen2' : (1048576 : Int) < (len2 : Int) := by omega
      go_enter Tryd.func3, Tryd.ntmps3
      go_wp2
      go_ret
      exact ⟨rfl, Below.refl _ _⟩
  · have hlen' : (1048576 : Int) < (len : Int) := by omega
    go_enter Tryd.func3, Tryd.ntmps3
    go_wp2
    go_ret
    exact ⟨rfl, Below.refl _ _⟩
end Go.Proofs.YtnjaegeapcijpaaDoor

namespace Go.Proofs.YtnjaegeapcijpaaDoor
open Go.RowKit Go.Deep Go.ChangeShapes Go.WideShapes Go.Joins

theorem Tryd.cellsByte : Tryd.prog.cellsOf 5 = 1 := by kernel_rfl
theorem u8_wf {n : Int} (h : (Lit.int .u8 n).wf = true) : 0 ≤ n ∧ n ≤ 255 := by
  simp only [Lit.wf, Bool.and_eq_true, decide_eq_true_eq] at h
  have h0 : IntKind.u8.min = 0 := by decide
  have h1 : IntKind.u8.max = 255 := by decide
  omega
section
variable {H : Type} {enc : TypeId × Value → H} {w : World} {base : Nat} {spare : Nat → Bool} {held : Bool}
theorem readBytes {fuel : Nat} {v : Value} {x : DataW H × List MemPlace} (h : DataW.trod enc Tryd.prog w base spare held fuel 22 [v] = some x) :
    ∃ (a : Option Addr) (len cap : Nat), v = .slice a len cap ∧ IsB w a len := by
  rcases open_slice1 Tryd.underlying22 Tryd.cellsByte h with ⟨hcs, _⟩ | ⟨a, len, cap, m, n, V, D, Pl, hcs, _, hl, hm, hmm, _, hx⟩
  · exact ⟨none, 0, 0, by simpa using hcs, fun j hj => absurd hj (Nat.not_lt_zero _)⟩
  · have hle : len ≤ m := by rw [hmm]; split <;> omega
    obtain ⟨f, hf⟩ := choose_lt (α := Int) (n := len) (p := fun i y => w.cell? (a.add i) = some (.int .u8 y) ∧ 0 ≤ y ∧ y ≤ 255) (fun i hi => by
      obtain ⟨h1, h2⟩ := hx i (by omega)
      obtain ⟨y, e, _, hwf⟩ := DataW.trod_int Tryd.underlying5 h2
      simp at e
      exact ⟨y, by rw [h1, e], u8_wf hwf⟩)
    refine ⟨some a, len, cap, by simpa using hcs, fun j hj => ?_⟩
    obtain ⟨b, off, rfl, e⟩ := spotOf (i := j) (hf 0 (by omega)).1
    have := hf j hj
    rw [e] at this
    exact ⟨b, off, f j, rfl, this.1, this.2⟩
end
end Go.Proofs.YtnjaegeapcijpaaDoor

namespace Go.Proofs.YtnjaegeapcijpaaDoor
open Go.ChangeShapes Go.WideShapes Go.ChangeAt Go.RowKit

set_option maxRecDepth 100000 in
theorem lawPlaces_contract (H : Type) (enc : TypeId × Value → H) (W : World) (base : Nat) (args : Array Value) (ds gs : List (DataW H)) (before : List MemPlace)
    (hval : ∀ (j : Nat) t v, Tryd.f3.params[j]? = some t → args[j]? = some v → Value.okWide Tryd.prog W .any base t v)
    (hW : DataW.Whole enc Tryd.prog Tryd.f3.params.toList Rows.fnPlaceSpec.vars false W args.toList ds gs before) (hL : laidMetH Tryd.prog [("errors.errorType", Rows.laid_errors_errorType)] W) :
    Calls Tryd.prog 3 args W fun e W' => ∃ v, e = .returned v ∧ Rows.fnPlaceSpec.post enc Tryd.prog Tryd.f3 false true false false W args v W' := by
  have hW' := hW
  obtain ⟨p, q, hA0, hV, rfl, hfz, hnd⟩ := hW
  have hA : DataW.TrodAll enc Tryd.prog W 0 (fun _ => true) true Tryd.f3.params.toList args.toList ds p := hA0
  rw [Tryd.params3] at hA hval
  obtain ⟨v0, vs0, d0, ds0, p0, q0, hargs, rfl, rfl, h0, r0⟩ := trodAll_cons hA
  obtain ⟨v1, vs1, d1, ds1, p1, q1, rfl, rfl, rfl, h1, r1⟩ := trodAll_cons r0
  obtain ⟨rfl, rfl, rfl⟩ := trodAll_nil r1
  obtain rfl : args = #[v0, v1] := Array.ext' hargs
  obtain ⟨rfl, rfl⟩ := trodVars_none hV
  have hg := handle_of_laid hL
  have hk := h0
  have hk1 := h1
  obtain ⟨a, len, cap, rfl⟩ := okWide_slice Tryd.underlying22 (hval 0 22 v0 rfl rfl)
  obtain ⟨fl, hfl⟩ := h0
  obtain ⟨x1, x2, x3, ex, hI⟩ := readBytes (v := .slice a len cap) (by simpa [Value.cells] using hfl)
  cases ex
  obtain ⟨a2, len2, cap2, rfl⟩ := okWide_slice Tryd.underlying22 (hval 1 22 v1 rfl rfl)
  obtain ⟨fl2, hfl2⟩ := h1
  obtain ⟨x1, x2, x3, ex, hI2⟩ := readBytes (v := .slice a2 len2 cap2) (by simpa [Value.cells] using hfl2)
  cases ex
  simp only [List.append_nil] at hW'
  refine (lawPlaces_any a len cap a2 len2 cap2 W hI hI2 hg).mono fun e W' ⟨he, hb⟩ => ?_
  subst he
  have hlt : ∀ x ∈ p0, x.block < W.heap.size := fun x hx => hW'.lt x (by simp [hx])
  have hlt1 : ∀ x ∈ p1, x.block < W.heap.size := fun x hx => hW'.lt x (by simp [hx])
  have e1 : ∀ d d' : DataW H, Rows.fnPlaceSpec.fn H ([d, d'] ++ []) = { results := [.lit (.bool true)], args := [d, d'] } := fun _ _ => rfl
  refine ⟨_, rfl, _, _, _, [], p0 ++ (p1 ++ []), [], hW', ?_, ?_, ?_, hb.frame _, fun h => by cases h⟩
  · rw [e1]; exact trodAll_cons_mk (shut_bool Tryd.underlying4 true) trodAll_mk0
  · rw [e1]; exact trodAll_cons_mk (Below.trod Tryd.laidOut (by kernel_rfl) (of_decide_eq_true (by kernel_rfl)) hk hb hlt) (trodAll_cons_mk (Below.trod Tryd.laidOut (by kernel_rfl) (of_decide_eq_true (by kernel_rfl)) hk1 hb hlt1) trodAll_mk0)
  · rw [e1]; rfl

theorem laidWorld_readsPlaces (os : Os) {H : Type} (enc : TypeId × Value → H) : ∃ places, DataW.whole enc Tryd.prog ((laidWorld os).forCall (fun _ _ => 0) ⟨#[], #[.slice none 0 0, .slice none 0 0], []⟩).memory Tryd.f3.params.toList Rows.fnPlaceSpec.vars false #[Value.slice none 0 0, .slice none 0 0].toList 8 = some ([.nil, .nil], [], places) :=
  ⟨[], by kernel_rfl⟩

set_option maxRecDepth 100000 in
theorem lawPlaces_lifted (os : Os) (started : os.Started) (H : Type) (enc : TypeId × Value → H) (F : Stop.Interp) :
    ReturnsInHanded {} Tryd.checked os 3 .any ((OpenSpec.ofChange Rows.fnPlaceSpec).preRow enc Tryd.prog Tryd.f3 Rows.fnPlaceRow.domain false Rows.fnPlaceRow.laid) (((OpenSpec.ofChange Rows.fnPlaceSpec).at F).post enc Tryd.prog Tryd.f3 false true false false) := by
  obtain ⟨places, hx⟩ := laidWorld_readsPlaces os enc
  refine returnsInHanded_of_row (C := Tryd.checked) (s := OpenSpec.ofChange Rows.fnPlaceSpec) Tryd.own started (by kernel_rfl) Tryd.func3
    (witness_row_at (enc := enc) (C := Tryd.checked) false (laidWorld os) #[.slice none 0 0, .slice none 0 0] rfl (by kernel_rfl) (by kernel_rfl) (by kernel_rfl)
      (OpenSpec.preRow_of_cond 8 hx (by kernel_rfl) (fun k hk => by cases hk) (by kernel_rfl) (laidWorld_met os _))) ?_
  intro W base args ds gs before hval hW _ _ _ hL _ _
  exact lawPlaces_contract H enc W base args ds gs before hval hW hL

theorem lawPlaces_said : Rows.FnPlaceSaid :=
  OpenClaim.holds_of_cond 3 Tryd.f3 rfl rfl rfl rfl rfl rfl rfl ⟨rfl, rfl, rfl, rfl, rfl⟩ rfl rfl rfl rfl rfl (by kernel_rfl) Tryd.func3 (by kernel_rfl)
    (of_decide_eq_true (by kernel_rfl)) (by unfold Func.isWrapper; rw [if_neg (of_decide_eq_false (by kernel_rfl))]; exact ⟨rfl, rfl⟩)
    (fun os started H enc _ F => by rw [OpenClaim.pre_eq_preRow]; exact lawPlaces_lifted os started H enc F)

theorem lawPlaces_plain (f : FuncId) (fn : Func) (hf : Tryd.pinned.checked.prog.funcNamed "loop.example/stringline/laws.FnPlace" = some f) (hfn : Tryd.pinned.checked.prog.funcs[f]? = some fn) :
    true = Tryd.pinned.checked.prog.looks [] ∧ ∀ (j : Nat) t, fn.params[j]? = some t → Tryd.pinned.checked.prog.wantsStandIn t = false := by
  obtain rfl : f = 3 := Option.some.inj ((show Tryd.prog.funcNamed "loop.example/stringline/laws.FnPlace" = some 3 by kernel_rfl).symm.trans hf) |>.symm
  obtain rfl : fn = Tryd.f3 := (Option.some.inj (Tryd.func3.symm.trans hfn)).symm
  refine ⟨by kernel_rfl, fun j t ht => ?_⟩
  rw [Tryd.params3] at ht
  obtain rfl : t = 22 := by simpa using Array.mem_of_getElem? ht
  exact (show Tryd.prog.wantsStandIn 22 = false by kernel_rfl)

theorem lawPlaces_card : Rows.FnPlaceCardSaid :=
  Claim7.holds_tied_plain_at .later [] _ _ _ _ lawPlaces_said (fun _ h => by cases h) (by kernel_rfl) (fun _ h => by cases h) fnPlace_row_tie rfl ⟨rfl, rfl⟩ (by kernel_rfl) rfl lawPlaces_plain (by kernel_rfl)
end Go.Proofs.YtnjaegeapcijpaaDoor
